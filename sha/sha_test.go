package sha_test

import (
	"bytes"
	"crypto/sha256"
	"strings"
	"testing"

	"haversack/api"
	"haversack/sha"
)

// row: n bytes that look like nothing in particular.
func row(n int) []byte {
	b := make([]byte, n)
	x := uint32(n) + 1
	for i := range b {
		x = x*1664525 + 1013904223
		b[i] = byte(x >> 24)
	}
	return b
}

func TestP1_1Known(t *testing.T) {
	for s, want := range map[string]string{
		"":    "e3b0c44298fc1c149afbf4c8996fb92427ae41e4649b934ca495991b7852b855",
		"abc": "ba7816bf8f01cfea414140de5dae2223b00361a396177a9cb410ff61f20015ad",
		"abcdbcdecdefdefgefghfghighijhijkijkljklmklmnlmnomnopnopq": "248d6a61d20638b8e5c026930c3e6039a33ce45964ff2167f6ecedd419db06c1",
	} {
		if got := sha.Hex(sha.Sum([]byte(s))); got != want {
			t.Errorf("Sum(%q) is %s, not %s", s, got, want)
		}
	}
	if sha.Sum() != sha.Sum(nil) || sha.Sum() != sha.Sum([]byte{}, nil) {
		t.Error("Sum of nothing hangs on how nothing is told")
	}
}

func TestP1_1EveryLength(t *testing.T) {
	for n := range 300 {
		b := row(n)
		if sha.Sum(b) != api.Key(sha256.Sum256(b)) {
			t.Fatalf("%d bytes", n)
		}
	}
	b := row(1 << 18)
	if sha.Sum(b) != api.Key(sha256.Sum256(b)) {
		t.Fatal("an archive's length")
	}
}

func TestP1_1HexAndParse(t *testing.T) {
	k := sha.Sum(row(9))
	s := sha.Hex(k)
	if len(s) != 64 || s != strings.ToLower(s) {
		t.Fatalf("Hex: %q", s)
	}
	if got, ok := sha.Parse(s); !ok || got != k {
		t.Error("Parse of Hex isn't the sum")
	}
	for _, bad := range []string{"", s[1:], s + "0", strings.ToUpper(s), s[:63] + "g", s[:63] + "/", s[:63] + ":", s[:63] + "`", " " + s[1:], s[:62] + "é"} {
		if got, ok := sha.Parse(bad); ok || got != (api.Key{}) {
			t.Errorf("Parse(%q): %v %v", bad, got, ok)
		}
	}
}

func TestP1_2CutAnywhere(t *testing.T) {
	b := row(200)
	want := sha.Sum(b)
	for i := 0; i <= len(b); i++ {
		for j := i; j <= len(b); j += 13 {
			if sha.Sum(b[:i], nil, b[i:j], b[j:]) != want {
				t.Fatalf("cut at %d and %d", i, j)
			}
		}
	}
	if !bytes.Equal(b, row(200)) {
		t.Error("what was handed in is changed")
	}
}
