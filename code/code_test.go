package code_test

import (
	"bytes"
	"math"
	"strings"
	"testing"

	"haversack/api"
	"haversack/code"
)

func num(n ...uint64) []byte {
	w := code.NewWriter()
	w.Num(n...)
	return w.Bytes()
}

func TestP2_1Num(t *testing.T) {
	for _, c := range []struct {
		n    uint64
		want string
	}{
		{0, "\x00"}, {1, "\x01"}, {127, "\x7f"}, {128, "\x80\x01"}, {300, "\xac\x02"}, {16383, "\xff\x7f"}, {16384, "\x80\x80\x01"},
		{math.MaxUint64, "\xff\xff\xff\xff\xff\xff\xff\xff\xff\x01"}, {1 << 63, "\x80\x80\x80\x80\x80\x80\x80\x80\x80\x01"},
	} {
		if got := string(num(c.n)); got != c.want {
			t.Errorf("Num(%d): %x, not %x", c.n, got, c.want)
		}
	}
	if !bytes.Equal(num(1, 300, 0), []byte{1, 0xac, 2, 0}) || len(num()) != 0 {
		t.Error("several numbers")
	}
}

func TestP2_1Int(t *testing.T) {
	for n, want := range map[int64]uint64{0: 0, -1: 1, 1: 2, -2: 3, 2: 4, math.MaxInt64: math.MaxUint64 - 1, math.MinInt64: math.MaxUint64} {
		w := code.NewWriter()
		w.Int(n)
		if !bytes.Equal(w.Bytes(), num(want)) {
			t.Errorf("Int(%d): %x", n, w.Bytes())
		}
		r := code.NewReader(w.Bytes())
		if r.Int() != n || r.Done() != api.OK {
			t.Errorf("Int(%d) isn't read back", n)
		}
	}
}

func TestP2_1TextBoolBytes(t *testing.T) {
	w := code.NewWriter()
	w.Text("ab", "")
	w.Bool(true, false)
	got := w.Bytes()
	if string(got) != "\x02ab\x00\x01\x00" {
		t.Fatalf("%x", got)
	}
	got[0] = 9
	if string(w.Bytes()) != "\x02ab\x00\x01\x00" {
		t.Error("Bytes isn't new memory")
	}
	w.Text()
	w.Bool()
	w.Int()
	w.Num(7)
	if string(w.Bytes()) != "\x02ab\x00\x01\x00\x07" {
		t.Errorf("written on behind Bytes: %x", w.Bytes())
	}
}

func TestP2_2Fails(t *testing.T) {
	ten := strings.Repeat("\xff", 9)
	for _, c := range []struct {
		name, b string
		read    func(r *code.Reader) bool
	}{
		{"no bytes", "", func(r *code.Reader) bool { return r.Num() == 0 }},
		{"bytes end", "\x80", func(r *code.Reader) bool { return r.Num() == 0 }},
		{"a last byte of nought", "\x81\x00", func(r *code.Reader) bool { return r.Num() == 0 }},
		{"eleven bytes", ten + "\x81\x01", func(r *code.Reader) bool { return r.Num() == 0 }},
		{"more than 64 bits", ten + "\x02", func(r *code.Reader) bool { return r.Num() == 0 }},
		{"Int of more than 64 bits", ten + "\x03", func(r *code.Reader) bool { return r.Int() == 0 }},
		{"a length above", "\x03ab", func(r *code.Reader) bool { return r.Text() == "" }},
		{"a length far above", ten + "\x01a", func(r *code.Reader) bool { return r.Text() == "" }},
		{"no truth", "\x02", func(r *code.Reader) bool { return !r.Bool() }},
		{"a truth that isn't there", "", func(r *code.Reader) bool { return !r.Bool() }},
	} {
		r := code.NewReader([]byte(c.b + "\x01\x01\x01"))
		if c.name == "no bytes" || c.name == "bytes end" || c.name == "a truth that isn't there" || c.name == "a length above" {
			r = code.NewReader([]byte(c.b))
		}
		if !c.read(r) {
			t.Errorf("%s: something is answered", c.name)
		}
		if r.Num() != 0 || r.Int() != 0 || r.Text() != "" || r.Bool() {
			t.Errorf("%s: later calls answer", c.name)
		}
		if r.Done() != api.ErrCode {
			t.Errorf("%s: Done", c.name)
		}
	}
}

func TestP2_2Done(t *testing.T) {
	r := code.NewReader([]byte{1, 1})
	if r.Done() != api.ErrCode || r.Num() != 1 || r.Done() != api.ErrCode || !r.Bool() || r.Done() != api.OK {
		t.Error("Done tells of bytes that are left, and makes nothing fail")
	}
	if code.NewReader(nil).Done() != api.OK {
		t.Error("nothing to read")
	}
	b := []byte{1, 'a'}
	r = code.NewReader(b)
	b[1] = 'b'
	if r.Text() != "a" {
		t.Error("the reader keeps what was handed in")
	}
}

func TestP2_3ReadBackAndInNoOtherBytes(t *testing.T) {
	w := code.NewWriter()
	x := uint64(1)
	for i := range 64 {
		x = x*6364136223846793005 + 1442695040888963407
		n := x >> (63 - i)
		w.Num(n)
		w.Int(int64(n))
		w.Text(strings.Repeat("x", i*3))
		w.Bool(i%3 == 0)
	}
	b := w.Bytes()
	again := code.NewWriter()
	r := code.NewReader(b)
	for range 64 {
		again.Num(r.Num())
		again.Int(r.Int())
		again.Text(r.Text())
		again.Bool(r.Bool())
	}
	if r.Done() != api.OK || !bytes.Equal(again.Bytes(), b) {
		t.Error("not read back")
	}
	for hi := range 256 {
		for lo := range 256 {
			b := []byte{byte(hi), byte(lo)}
			r := code.NewReader(b)
			if n := r.Num(); r.Done() == api.OK && !bytes.Equal(num(n), b) {
				t.Fatalf("%x is read as %d", b, n)
			}
		}
	}
}
