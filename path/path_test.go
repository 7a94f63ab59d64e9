package path_test

import (
	"slices"
	"strings"
	"testing"

	"haversack/api"
	"haversack/path"
)

var (
	name32 = strings.Repeat("n", 32)
	deep12 = strings.Repeat("d/", 11) + "d"
	long   = strings.Repeat(name32+"/", 6) + "dd" // 200 bytes
)

func TestP7_1Clean(t *testing.T) {
	for _, c := range []struct {
		s, want string
		e       api.Errno
	}{
		{"", "", api.OK}, {".", "", api.OK}, {"a", "a", api.OK}, {"a/b", "a/b", api.OK}, {"a//b/", "a/b", api.OK}, {"./a/./b/.", "a/b", api.OK},
		{"a/./b/../c", "a/c", api.OK}, {"a/..", "", api.OK}, {"a/../b", "b", api.OK}, {"...", "...", api.OK}, {"..a/a..", "..a/a..", api.OK}, {".hid", ".hid", api.OK},
		{"..", "", api.ErrEscape}, {"a/../..", "", api.ErrEscape}, {"a/../../b", "", api.ErrEscape}, {"/", "", api.ErrEscape}, {"/a", "", api.ErrEscape}, {"./..", "", api.ErrEscape},
		{"a b", "", api.ErrPath}, {"a\x7f", "", api.ErrPath}, {"a\x00", "", api.ErrPath}, {"a\xc3\xa9", "", api.ErrPath}, {`a"`, "", api.ErrPath}, {`a\b`, "", api.ErrPath},
		{"*", "", api.ErrPath}, {"a?", "", api.ErrPath}, {"c:", "", api.ErrPath}, {"!#$%&'()+,-.;<=>@[]^_`{|}~", "!#$%&'()+,-.;<=>@[]^_`{|}~", api.OK},
		{name32, name32, api.OK}, {name32 + "n", "", api.ErrPath}, {name32 + "n/..", "", api.ErrPath}, {" /..", "", api.ErrPath},
		{deep12, deep12, api.OK}, {deep12 + "/d", "", api.ErrPath}, {deep12 + "/d/..", deep12, api.OK}, {deep12 + "/d/../..", deep12[2:], api.OK},
		{long, long, api.OK}, {long + "/", "", api.ErrPath}, {long[1:] + "/", long[1:], api.OK}, {strings.Repeat("./", 100), "", api.OK}, {strings.Repeat("./", 100) + "a", "", api.ErrPath},
		{"a /../..", "", api.ErrPath}, {"../a ", "", api.ErrEscape}, {"/" + name32 + "n", "", api.ErrEscape}, {"/" + strings.Repeat("x", 200), "", api.ErrPath},
		{"../" + strings.Repeat("x", 200), "", api.ErrPath}, {deep12 + "/d/*", "", api.ErrPath}, {deep12 + "/d/" + strings.Repeat("../", 14), "", api.ErrEscape},
	} {
		if got, e := path.Clean(c.s); got != c.want || e != c.e {
			t.Errorf("Clean(%q): %q %v, not %q %v", c.s, got, e, c.want, c.e)
		}
	}
	for c := range 256 {
		want := api.OK
		if c < 33 || c > 126 || strings.IndexByte(`"\*?:`, byte(c)) >= 0 {
			want = api.ErrPath
		}
		if c == '/' {
			continue
		}
		if _, e := path.Clean("a" + string([]byte{byte(c)}) + "b"); e != want {
			t.Errorf("byte %d: %v", c, e)
		}
	}
}

func TestP7_2OfCleanPaths(t *testing.T) {
	for _, c := range []struct {
		p, parent, base string
		parts           []string
	}{
		{"", "", "", nil}, {"a", "", "a", []string{"a"}}, {"a/b", "a", "b", []string{"a", "b"}}, {"a/bb/c", "a/bb", "c", []string{"a", "bb", "c"}},
	} {
		if path.Parent(c.p) != c.parent || path.Base(c.p) != c.base || !slices.Equal(path.Parts(c.p), c.parts) {
			t.Errorf("%q: %q %q %q", c.p, path.Parent(c.p), path.Base(c.p), path.Parts(c.p))
		}
	}
	for _, c := range []struct {
		p, dir string
		want   bool
	}{
		{"", "", true}, {"a", "", true}, {"", "a", false}, {"a", "a", true}, {"a/b", "a", true}, {"ab", "a", false}, {"a-b", "a", false}, {"a", "a/b", false}, {"a/b/c", "a/b", true}, {"a/bc", "a/b", false},
	} {
		if path.Within(c.p, c.dir) != c.want {
			t.Errorf("Within(%q, %q)", c.p, c.dir)
		}
	}
}

func TestP7_2Join(t *testing.T) {
	for _, c := range []struct {
		dir, s, want string
		e            api.Errno
	}{
		{"", "a/../b", "b", api.OK}, {"a", "", "a", api.OK}, {"a", "b", "a/b", api.OK}, {"a/b", "c/../d", "a/b/d", api.OK}, {"a", "b/..", "a", api.OK}, {"a", ".", "a", api.OK},
		{"a", "..", "", api.ErrEscape}, {"a/b", "../b", "", api.ErrEscape}, {"a", "b/../../a", "", api.ErrEscape}, {"a", "/b", "", api.ErrEscape}, {"a", "/", "", api.ErrEscape},
		{"", "/b", "", api.ErrEscape}, {"", "..", "", api.ErrEscape}, {"a", "b c", "", api.ErrPath}, {"a", "b*/../..", "", api.ErrPath}, {"a", "../b*", "", api.ErrEscape},
		{"d", deep12[2:], deep12, api.OK}, {"d", deep12, "", api.ErrPath}, {deep12, "d/..", deep12, api.OK},
		{"a", long[2:], "a/" + long[2:], api.OK}, {"a", long[1:], "", api.ErrPath}, {long, "", "", api.ErrPath}, {"a", "/" + long, "", api.ErrPath}, {"", long, long, api.OK}, {long[1:], "", long[1:], api.OK},
	} {
		if got, e := path.Join(c.dir, c.s); got != c.want || e != c.e {
			t.Errorf("Join(%q, %q): %q %v, not %q %v", c.dir, c.s, got, e, c.want, c.e)
		}
	}
}

func TestP7_3CleanOfClean(t *testing.T) {
	alphabet := []string{"a", "b", ".", "..", "", "/", "...", "*", name32, " "}
	x := uint32(1)
	for range 20000 {
		s := ""
		for range 8 {
			x = x*1664525 + 1013904223
			s += alphabet[x>>16%uint32(len(alphabet))] + []string{"", "/"}[x>>9&1]
		}
		p, e := path.Clean(s)
		if e != api.OK {
			if p != "" {
				t.Fatalf("Clean(%q): %q beside an error", s, p)
			}
			continue
		}
		if again, e := path.Clean(p); again != p || e != api.OK {
			t.Fatalf("Clean(%q): %q, then %q", s, p, again)
		}
		if slices.Contains(path.Parts(p), "..") || strings.HasPrefix(p, "/") {
			t.Fatalf("Clean(%q): %q leads out", s, p)
		}
		if p != "" {
			if q, _ := path.Join(path.Parent(p), path.Base(p)); q != p {
				t.Fatalf("%q isn't its Parent and Base: %q", p, q)
			}
		}
	}
}

func TestP7CallsEnd(t *testing.T) {
	for _, s := range []string{"/", "//", "a/", "../..", strings.Repeat("/", 1000), "\xff"} {
		path.Parts(s)
		path.Parent(s)
		path.Base(s)
		path.Within(s, s)
		path.Join(s, s)
		path.Join(s, "a")
	}
}
