package archive_test

import (
	"crypto/sha256"
	"fmt"
	"math/rand"
	"reflect"
	"strings"
	"testing"

	"haversack/api"
	"haversack/archive"
	"haversack/tree"
)

func file(p, b string) api.File { return api.File{Path: p, B: []byte(b)} }
func dir(p string) api.File     { return api.File{Path: p, Dir: true} }

// entry: one as the chapter writes it, with a path's length and a file's bytes.
func entry(kind byte, p, rest string) string {
	return string([]byte{kind, byte(len(p) >> 8), byte(len(p))}) + p + rest
}

func eight(n uint64) string {
	var b [8]byte
	for i := range b {
		b[i] = byte(n >> (56 - 8*i))
	}
	return string(b[:])
}

const end = "\xff"

func TestP13_1Pack(t *testing.T) {
	if got := string(archive.Pack(nil)); got != "PAK1\xff" {
		t.Errorf("nothing: %q", got)
	}
	got := string(archive.Pack([]api.File{file("b/c", "xyz"), {Path: "a", Dir: true, B: []byte("no")}, file("", "")}))
	want := "PAK1" + "\x00\x00\x03b/c\x00\x00\x00\x00\x00\x00\x00\x03xyz" + "\x01\x00\x01a" + "\x00\x00\x00" + eight(0) + end
	if got != want {
		t.Errorf("%q, not %q", got, want)
	}
	long := strings.Repeat("p", 65536)
	if got := string(archive.Pack([]api.File{dir(long)})); got != "PAK1\x01\xff\xff"+long[:65535]+end {
		t.Error("a path that is too long")
	}
	if got := string(archive.Pack([]api.File{dir(long[:65535])})); got != "PAK1\x01\xff\xff"+long[:65535]+end {
		t.Error("a path as long as may be")
	}
	if got := archive.Pack([]api.File{file("f", strings.Repeat("x", 70000))}); string(got[8:16]) != eight(70000) {
		t.Errorf("a length: %q", got[8:16])
	}
}

func TestP13_2Open(t *testing.T) {
	l, e := archive.Open([]byte("PAK1" + entry(0, "z/./y", eight(2)+"ab") + entry(1, "a//b/", "") + entry(0, "f", eight(0)) + end))
	want := []api.File{dir("a"), dir("a/b"), file("f", ""), dir("z"), file("z/y", "ab")}
	if e != api.OK || len(l) != len(want) {
		t.Fatalf("%v %v", l, e)
	}
	for i, f := range l {
		if f.Path != want[i].Path || f.Dir != want[i].Dir || string(f.B) != string(want[i].B) {
			t.Errorf("%v, not %v", f, want[i])
		}
	}
	if l, e := archive.Open([]byte("PAK1" + end)); e != api.OK || len(l) != 0 {
		t.Errorf("nothing: %v %v", l, e)
	}
}

func TestP13_2Refused(t *testing.T) {
	good := entry(0, "a", eight(1)+"x")
	out := "\x00\x00\x02.."
	var full string
	for i := range 500 {
		full += entry(1, fmt.Sprint("d", i), "")
	}
	for _, c := range []struct {
		what, b string
		e       api.Errno
	}{
		{"nothing", "", api.ErrArchive}, {"another beginning", "PAK2" + end, api.ErrArchive}, {"a short beginning", "PAK", api.ErrArchive}, {"no end", "PAK1", api.ErrArchive}, {"no end", "PAK1" + good, api.ErrArchive},
		{"another kind", "PAK1\x02" + end, api.ErrArchive}, {"another kind", "PAK1\xfe" + end, api.ErrArchive}, {"bytes behind the end", "PAK1" + end + end, api.ErrArchive}, {"an archive behind the end", "PAK1" + end + "PAK1" + end, api.ErrArchive},
		{"ends in a path's length", "PAK1\x00\x00", api.ErrArchive}, {"ends in a path", "PAK1\x00\x00\x05abcd", api.ErrArchive}, {"ends in a length", "PAK1\x00\x00\x01a\x00\x00", api.ErrArchive}, {"ends in bytes", "PAK1" + entry(0, "a", eight(3)+"xx"), api.ErrArchive},
		{"a length above", "PAK1" + entry(0, "a", eight(2)+end), api.ErrArchive}, {"a length far above", "PAK1" + entry(0, "a", eight(1<<63)+"x"+end), api.ErrArchive}, {"the greatest length", "PAK1" + entry(0, "a", eight(1<<64-1)+"x"+end), api.ErrArchive},
		{"a wrong path", "PAK1" + entry(1, "a*", "") + end, api.ErrArchive}, {"a path that is too long", "PAK1" + entry(1, strings.Repeat("a/", 101), "") + end, api.ErrArchive},
		{"an escape", "PAK1" + entry(1, "a/../..", "") + end, api.ErrEscape}, {"an escape", "PAK1" + entry(1, "/a", "") + end, api.ErrEscape}, {"an escape, and nothing behind", "PAK1" + out, api.ErrEscape}, {"an escape, and a length above", "PAK1" + out + eight(1<<63), api.ErrEscape},
		{"an escape behind what is wrong", "PAK1\x03" + out, api.ErrArchive}, {"an escape behind a wrong path", "PAK1" + entry(1, "a*", "") + out, api.ErrArchive}, {"an escape that is cut", "PAK1\x00\x00\x03..", api.ErrArchive}, {"an escape ahead of what is wrong", "PAK1" + good + out + "\x07", api.ErrEscape},
		{"a path twice, then an escape", "PAK1" + good + good + out, api.ErrEscape}, {"an escape behind the end", "PAK1" + end + out, api.ErrArchive},
		{"a path twice", "PAK1" + good + good + end, api.ErrArchive}, {"a file ahead of one", "PAK1" + good + entry(1, "a/b", "") + end, api.ErrArchive}, {"a directory that is there", "PAK1" + entry(1, "a/b", "") + entry(1, "a", "") + end, api.ErrArchive}, {"the root", "PAK1" + entry(1, "", "") + end, api.ErrArchive},
		{"a file that is too long", "PAK1" + entry(0, "a", eight(api.MaxFile+1)+strings.Repeat("x", api.MaxFile+1)) + end, api.ErrArchive},
		{"too many", "PAK1" + full + entry(1, "z", "") + end, api.ErrArchive}, {"too many, the last an escape", "PAK1" + full + out, api.ErrArchive}, {"too many directories ahead", "PAK1" + full[:len(full)-7] + entry(1, "x/y", "") + end, api.ErrArchive},
	} {
		if l, e := archive.Open([]byte(c.b)); e != c.e || l != nil {
			t.Errorf("%s: %v, not %v", c.what, e, c.e)
		}
	}
	if l, e := archive.Open([]byte("PAK1" + full + end)); e != api.OK || len(l) != 500 {
		t.Errorf("500: %v", e)
	}
	var big []api.File
	for i := range 5 {
		big = append(big, file(fmt.Sprint(i), strings.Repeat("x", api.MaxFile*4/5)))
	}
	big[4].B = big[4].B[:len(big[4].B)-(len(archive.Pack(big))-api.MaxArchive)]
	b := archive.Pack(big)
	if _, e := archive.Open(b); len(b) != api.MaxArchive || e != api.OK {
		t.Errorf("%d bytes: %v", len(b), e)
	}
	big[4].B = append(big[4].B, 'x')
	if _, e := archive.Open(archive.Pack(big)); e != api.ErrArchive {
		t.Errorf("a byte more: %v", e)
	}
}

func TestP13_2Digest(t *testing.T) {
	b := archive.Pack([]api.File{file("a", "x")})
	if archive.Digest(b) != api.Key(sha256.Sum256(b)) || archive.Digest(nil) != api.Key(sha256.Sum256(nil)) {
		t.Error("not the sum")
	}
}

func TestP13_3OpenOfPack(t *testing.T) {
	rnd := rand.New(rand.NewSource(1))
	for range 300 {
		x := tree.New()
		for range rnd.Intn(12) {
			p := fmt.Sprintf("%c/%c/%d", 'a'+rnd.Intn(3), 'a'+rnd.Intn(3), rnd.Intn(4))
			if rnd.Intn(3) == 0 {
				x.Mkdir(p)
			} else {
				x.Write(p[:5], []byte(strings.Repeat("y", rnd.Intn(300))))
			}
		}
		l, e := archive.Open(archive.Pack(x.Files()))
		if e != api.OK || !reflect.DeepEqual(look(l), look(x.Files())) {
			t.Fatalf("%v: %v", e, look(x.Files()))
		}
	}
	b := archive.Pack([]api.File{dir("a"), file("a/b", "xyz"), file("c", "")})
	kept := string(b)
	for i := range b {
		archive.Open(b[:i])
		for range 40 {
			c := []byte(kept)
			c[i] = byte(rnd.Intn(256))
			if l, e := archive.Open(c); e != api.OK && l != nil {
				t.Fatal("something beside an error")
			}
		}
	}
	l, _ := archive.Open(b)
	l[1].B[0] = '?'
	if string(b) != kept {
		t.Error("what is answered shares memory with what was handed in")
	}
}

func look(l []api.File) (out []string) {
	for _, f := range l {
		out = append(out, fmt.Sprint(f.Path, f.Dir, string(f.B)))
	}
	return out
}
