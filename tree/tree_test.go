package tree_test

import (
	"bytes"
	"fmt"
	"math/rand"
	"slices"
	"strings"
	"testing"

	"haversack/api"
	"haversack/tree"
)

// look: a tree as a text: directories with a slash behind, files with their bytes.
func look(t *tree.Tree) string {
	var out []string
	n := 0
	for _, f := range t.Files() {
		if f.Dir {
			out = append(out, f.Path+"/")
		} else {
			out = append(out, f.Path+"="+string(f.B))
		}
		n += len(f.B)
	}
	if n != t.Size() {
		return fmt.Sprintf("Size %d, not %d", t.Size(), n)
	}
	return strings.Join(out, " ")
}

// grown: a tree of a text such as look tells.
func grown(t *testing.T, s string) *tree.Tree {
	t.Helper()
	x := tree.New()
	for _, w := range strings.Fields(s) {
		p, b, file := strings.Cut(w, "=")
		e := api.OK
		if file {
			e = x.Write(p, []byte(b))
		} else {
			e = x.Mkdir(p)
		}
		if e != api.OK {
			t.Fatalf("%q: %v", w, e)
		}
	}
	return x
}

const start = "a/ a-b= a/b=1 a/c/ a/c/d=22 f=333"

// step: what one call makes of start, or its error.
type step struct {
	what string
	do   func(t *tree.Tree) api.Errno
	e    api.Errno
	want string
}

func check(t *testing.T, steps []step) {
	t.Helper()
	for _, s := range steps {
		x := grown(t, start)
		if s.e != api.OK {
			s.want = start
		}
		if e := s.do(x); e != s.e {
			t.Errorf("%s: %v, not %v", s.what, e, s.e)
		}
		if got := look(x); got != s.want {
			t.Errorf("%s: %q, not %q", s.what, got, s.want)
		}
	}
}

func TestP8_1WriteAppend(t *testing.T) {
	w := func(p string) func(*tree.Tree) api.Errno {
		return func(t *tree.Tree) api.Errno { return t.Write(p, []byte("x")) }
	}
	a := func(p string) func(*tree.Tree) api.Errno {
		return func(t *tree.Tree) api.Errno { return t.Append(p, []byte("x")) }
	}
	check(t, []step{
		{"Write there", w("f"), api.OK, "a/ a-b= a/b=1 a/c/ a/c/d=22 f=x"},
		{"Write new", w("g"), api.OK, "a/ a-b= a/b=1 a/c/ a/c/d=22 f=333 g=x"},
		{"Write below", w("a/./e/f/../g"), api.OK, "a/ a-b= a/b=1 a/c/ a/c/d=22 a/e/ a/e/g=x f=333"},
		{"Write deep", w("g/h/i"), api.OK, "a/ a-b= a/b=1 a/c/ a/c/d=22 f=333 g/ g/h/ g/h/i=x"},
		{"Append there", a("a/c/d"), api.OK, "a/ a-b= a/b=1 a/c/ a/c/d=22x f=333"},
		{"Append new", a("g/h"), api.OK, "a/ a-b= a/b=1 a/c/ a/c/d=22 f=333 g/ g/h=x"},
		{"Write a directory", w("a"), api.ErrKind, ""},
		{"Write the root", w("a/.."), api.ErrKind, ""},
		{"Write below a file", w("f/g/h"), api.ErrKind, ""},
		{"Write badly", w("a/*"), api.ErrPath, ""},
		{"Write out", w("a/../.."), api.ErrEscape, ""},
		{"Append a directory", a("a/c"), api.ErrKind, ""},
		{"Append the root", a(""), api.ErrKind, ""},
		{"Append below a file", a("a/b/c"), api.ErrKind, ""},
		{"Append out", a("/f"), api.ErrEscape, ""},
	})
	x := tree.New()
	b := []byte("ab")
	x.Write("f", b)
	x.Append("f", b)
	b[0] = 'x'
	if look(x) != "f=abab" {
		t.Errorf("what was handed in is kept: %s", look(x))
	}
}

func TestP8_1ReadExists(t *testing.T) {
	x := grown(t, start)
	for _, c := range []struct {
		p, b string
		e    api.Errno
		ok   bool
	}{
		{"f", "333", api.OK, true}, {"a/../a/c//d", "22", api.OK, true}, {"a-b", "", api.OK, true}, {"", "", api.ErrKind, true}, {"a/c", "", api.ErrKind, true},
		{"f/g", "", api.ErrKind, false}, {"a/b/c/d", "", api.ErrKind, false}, {"g", "", api.ErrNone, false}, {"a/x/y", "", api.ErrNone, false},
		{"..", "", api.ErrEscape, false}, {"a\"", "", api.ErrPath, false},
	} {
		if b, e := x.Read(c.p); string(b) != c.b || e != c.e {
			t.Errorf("Read(%q): %q %v", c.p, b, e)
		}
		if x.Exists(c.p) != c.ok {
			t.Errorf("Exists(%q)", c.p)
		}
	}
	b, _ := x.Read("f")
	b[0] = 'x'
	if look(x) != start {
		t.Error("what Read answered is kept")
	}
}

func TestP8_1MkdirRemove(t *testing.T) {
	m := func(p string) func(*tree.Tree) api.Errno {
		return func(t *tree.Tree) api.Errno { return t.Mkdir(p) }
	}
	r := func(p string) func(*tree.Tree) api.Errno {
		return func(t *tree.Tree) api.Errno { return t.Remove(p) }
	}
	check(t, []step{
		{"Mkdir there", m("a/c"), api.OK, start},
		{"Mkdir the root", m("."), api.OK, start},
		{"Mkdir", m("a/e/f"), api.OK, "a/ a-b= a/b=1 a/c/ a/c/d=22 a/e/ a/e/f/ f=333"},
		{"Mkdir a file", m("f"), api.ErrKind, ""},
		{"Mkdir below a file", m("a/b/c"), api.ErrKind, ""},
		{"Mkdir badly", m("a b"), api.ErrPath, ""},
		{"Remove a file", r("a/b"), api.OK, "a/ a-b= a/c/ a/c/d=22 f=333"},
		{"Remove a directory", r("a"), api.OK, "a-b= f=333"},
		{"Remove the root", r("a/.."), api.ErrKind, ""},
		{"Remove nothing", r("b"), api.ErrNone, ""},
		{"Remove below a file", r("f/g"), api.ErrNone, ""},
		{"Remove out", r("/a"), api.ErrEscape, ""},
	})
}

func TestP8_1Space(t *testing.T) {
	big := make([]byte, api.MaxFile)
	x := tree.New()
	for i := range 16 {
		if e := x.Write(fmt.Sprint("f", i), big); e != api.OK {
			t.Fatal(i, e)
		}
	}
	for what, e := range map[string]api.Errno{
		"a file too long":         x.Write("f0", make([]byte, api.MaxFile+1)),
		"a tree too large":        x.Write("new", []byte{1}),
		"Append to a full file":   x.Append("f0", []byte{1}),
		"Copy into a full tree":   x.Copy("f0", "new"),
		"Append to a full tree":   x.Append("new", []byte{1}),
		"Write a full one longer": x.Write("f1", append(big, 1)),
	} {
		if e != api.ErrSpace {
			t.Errorf("%s: %v", what, e)
		}
	}
	if x.Size() != api.MaxTree || len(x.Files()) != 16 {
		t.Error("what was refused was done")
	}
	if x.Mkdir("d/e") != api.OK || x.Rename("f0", "d/e/f/g") != api.OK || x.Rename("d/e/f/g", "f0") != api.OK || x.Remove("d") != api.OK {
		t.Error("directories have no bytes")
	}
	if x.Write("f0", big[1:]) != api.OK || x.Write("new", []byte{1}) != api.OK || x.Append("new", nil) != api.OK {
		t.Error("just as large as may be")
	}
	if x.Write("f1/x", make([]byte, api.MaxFile+1)) != api.ErrKind || x.Write("a\x00", make([]byte, api.MaxFile+1)) != api.ErrPath {
		t.Error("ErrKind and ErrPath come ahead of ErrSpace")
	}
}

func TestP8_1Files500(t *testing.T) {
	x := tree.New()
	for i := range api.MaxFiles - 3 {
		x.Write(fmt.Sprint(i), nil)
	}
	x.Mkdir("d")
	for what, e := range map[string]api.Errno{
		"Write": x.Write("a/b/c", nil), "Append": x.Append("a/b/c", nil), "Mkdir": x.Mkdir("a/b/c"), "Copy": x.Copy("0", "a/b/c"), "Rename": x.Rename("0", "a/b/c/d"),
	} {
		if e != api.ErrSpace {
			t.Errorf("%s: %v", what, e)
		}
	}
	for what, e := range map[string]api.Errno{
		"Write": x.Clone().Write("d/b/c", nil), "Append": x.Clone().Append("d/b/c", nil), "Mkdir": x.Clone().Mkdir("d/b/c"), "Copy": x.Clone().Copy("0", "d/b/c"), "Rename": x.Clone().Rename("0", "a/b/c"),
	} {
		if e != api.OK {
			t.Errorf("%s up to the last one: %v", what, e)
		}
	}
	if len(x.Files()) != api.MaxFiles-2 {
		t.Error("what was refused was done")
	}
	x.Write("d/b/c", nil)
	if x.Write("d/b/c", []byte("1")) != api.OK || x.Append("0", []byte("2")) != api.OK || x.Mkdir("d/b") != api.OK || x.Rename("0", "00") != api.OK || x.Write("new", nil) != api.ErrSpace {
		t.Error("as many as may be")
	}
}

func TestP8_2RenameCopy(t *testing.T) {
	type call = func(*tree.Tree) api.Errno
	both := func(from, to string) (call, call) {
		return func(t *tree.Tree) api.Errno { return t.Rename(from, to) }, func(t *tree.Tree) api.Errno { return t.Copy(from, to) }
	}
	for _, c := range []struct {
		from, to string
		e        api.Errno
		rename   string
		copy     string
	}{
		{"f", "g", api.OK, "a/ a-b= a/b=1 a/c/ a/c/d=22 g=333", "a/ a-b= a/b=1 a/c/ a/c/d=22 f=333 g=333"},
		{"a/c", "x/y", api.OK, "a/ a-b= a/b=1 f=333 x/ x/y/ x/y/d=22", "a/ a-b= a/b=1 a/c/ a/c/d=22 f=333 x/ x/y/ x/y/d=22"},
		{"a", "b", api.OK, "a-b= b/ b/b=1 b/c/ b/c/d=22 f=333", "a/ a-b= a/b=1 a/c/ a/c/d=22 b/ b/b=1 b/c/ b/c/d=22 f=333"},
		{"a/c", "a/e/f", api.OK, "a/ a-b= a/b=1 a/e/ a/e/f/ a/e/f/d=22 f=333", "a/ a-b= a/b=1 a/c/ a/c/d=22 a/e/ a/e/f/ a/e/f/d=22 f=333"},
		{"a/c/d", "d", api.OK, "a/ a-b= a/b=1 a/c/ d=22 f=333", "a/ a-b= a/b=1 a/c/ a/c/d=22 d=22 f=333"},
		{"/x", "a b", api.ErrEscape, "", ""}, {"x", "a b", api.ErrPath, "", ""}, {"x", "x", api.ErrNone, "", ""}, {"f/g", "f/g", api.ErrNone, "", ""},
		{"", "x", api.ErrKind, "", ""}, {"", "", api.ErrKind, "", ""}, {"a", "a", api.ErrKind, "", ""}, {"a", "a/x", api.ErrKind, "", ""}, {"a", "a/b/c", api.ErrKind, "", ""}, {"f", "f/x", api.ErrKind, "", ""},
		{"f", "a", api.ErrThere, "", ""}, {"a", "f", api.ErrThere, "", ""}, {"f", "", api.ErrThere, "", ""}, {"f", "a/b/c", api.ErrKind, "", ""}, {"a", "f/x/y", api.ErrKind, "", ""},
		{"a", strings.Repeat("d/", 9) + "x", api.OK, "-", "-"}, {"a", strings.Repeat("d/", 10) + "x", api.ErrPath, "", ""}, {"a/c", strings.Repeat("d/", 10) + "x", api.OK, "-", "-"},
	} {
		rename, copied := both(c.from, c.to)
		for i, do := range []call{rename, copied} {
			x := grown(t, start)
			if e := do(x); e != c.e {
				t.Errorf("%d: %q to %q: %v, not %v", i, c.from, c.to, e, c.e)
			}
			want := []string{c.rename, c.copy}[i]
			if c.e != api.OK {
				want = start
			}
			if want != "-" && look(x) != want {
				t.Errorf("%d: %q to %q: %q, not %q", i, c.from, c.to, look(x), want)
			}
		}
	}
	long := strings.Repeat(strings.Repeat("n", 32)+"/", 6) // 198 bytes
	x := grown(t, "a/b=1 a/c=2 q/"+strings.Repeat("r", 9)+"=3")
	if e := x.Rename("q", long[:191]); e != api.ErrPath {
		t.Errorf("too long within: %v", e)
	}
	if e := x.Rename("q", long[:190]); e != api.OK {
		t.Errorf("just as long within: %v", e)
	}
	if e := x.Rename("a", long+"n"); e != api.ErrPath {
		t.Errorf("too long within: %v", e)
	}
	if e := x.Copy("a", long+"n"); e != api.ErrPath {
		t.Errorf("too long within: %v", e)
	}
}

func TestP8_2CopyIsItsOwn(t *testing.T) {
	x := grown(t, "f=1")
	x.Copy("f", "g")
	x.Append("f", []byte("2"))
	x.Append("g", []byte("3"))
	x.Rename("f", "h")
	x.Append("h", []byte("4"))
	if look(x) != "g=13 h=124" {
		t.Error(look(x))
	}
}

func TestP8_3Of(t *testing.T) {
	f := func(p string) api.File { return api.File{Path: p, B: []byte("x")} }
	d := func(p string) api.File { return api.File{Path: p, Dir: true, B: []byte("y")} }
	for _, c := range []struct {
		l    []api.File
		e    api.Errno
		want string
	}{
		{nil, api.OK, ""},
		{[]api.File{d("a"), f("a/./b"), d("c/d")}, api.OK, "a/ a/b=x c/ c/d/"},
		{[]api.File{f("b"), f("a")}, api.OK, "a=x b=x"},
		{[]api.File{f("a/b"), f("a//b")}, api.ErrThere, ""}, {[]api.File{d("a"), d("a/")}, api.ErrThere, ""}, {[]api.File{f("a"), d("a")}, api.ErrThere, ""}, {[]api.File{d("a"), f("a")}, api.ErrThere, ""},
		{[]api.File{f("a/b"), d("a")}, api.ErrThere, ""}, {[]api.File{d("")}, api.ErrThere, ""}, {[]api.File{d("a/..")}, api.ErrThere, ""},
		{[]api.File{f("a/b"), f("a")}, api.ErrKind, ""}, {[]api.File{f("")}, api.ErrKind, ""}, {[]api.File{f("a"), f("a/b")}, api.ErrKind, ""}, {[]api.File{f("a"), d("a/b")}, api.ErrKind, ""},
		{[]api.File{f("a"), f("/a")}, api.ErrEscape, ""}, {[]api.File{f("a"), f("a ")}, api.ErrPath, ""},
		{[]api.File{{Path: "a", B: make([]byte, api.MaxFile+1)}}, api.ErrSpace, ""}, {[]api.File{f("a"), {Path: "a", B: make([]byte, api.MaxFile+1)}}, api.ErrThere, ""},
	} {
		x, e := tree.Of(c.l)
		if e != c.e || (x == nil) != (e != api.OK) {
			t.Errorf("%v: %v, not %v", c.l, e, c.e)
		}
		if x != nil && look(x) != c.want {
			t.Errorf("%v: %q", c.l, look(x))
		}
	}
}

func TestP8_3FilesClone(t *testing.T) {
	x := grown(t, start)
	l := x.Files()
	for i, f := range l {
		if i > 0 && l[i-1].Path >= f.Path || f.Dir && f.B != nil {
			t.Errorf("%v", f)
		}
		for j := range f.B {
			f.B[j] = '?'
		}
	}
	c := x.Clone()
	c.Append("f", []byte("4"))
	x.Append("f", []byte("5"))
	c.Remove("a")
	if look(x) != "a/ a-b= a/b=1 a/c/ a/c/d=22 f=3335" || look(c) != "a-b= f=3334" {
		t.Errorf("%q %q", look(x), look(c))
	}
}

func TestP8_4OfFiles(t *testing.T) {
	rnd := rand.New(rand.NewSource(1))
	names := []string{"a", "b", "a-b", "a/b", "b/a/c", "a/b/c", "c", ".", "a/../c", "..", "d/e/f/g"}
	pick := func() string { return names[rnd.Intn(len(names))] }
	x := tree.New()
	for range 3000 {
		before := look(x)
		var e api.Errno
		switch rnd.Intn(7) {
		case 0:
			e = x.Write(pick(), []byte(pick()))
		case 1:
			e = x.Append(pick(), []byte("+"))
		case 2:
			e = x.Mkdir(pick())
		case 3:
			e = x.Remove(pick())
		case 4:
			e = x.Rename(pick(), pick())
		case 5:
			e = x.Copy(pick(), pick())
		case 6:
			if x.Size() > 2000 {
				x = tree.New()
			}
			continue
		}
		if e != api.OK && look(x) != before {
			t.Fatalf("%v changed %q to %q", e, before, look(x))
		}
		y, e := tree.Of(x.Files())
		same := func(a, b api.File) bool { return a.Path == b.Path && a.Dir == b.Dir && bytes.Equal(a.B, b.B) }
		if e != api.OK || !slices.EqualFunc(x.Files(), y.Files(), same) || y.Size() != x.Size() {
			t.Fatalf("Of Files of %q: %v", look(x), e)
		}
		for _, f := range x.Files() { // a directory ahead of each
			if i := strings.LastIndexByte(f.Path, '/'); i > 0 && x.Mkdir(f.Path[:i]) != api.OK {
				t.Fatalf("%q: nothing ahead of %s", look(x), f.Path)
			}
		}
		if look(x) != look(y) {
			t.Fatalf("%q lacked directories", look(y))
		}
	}
}
