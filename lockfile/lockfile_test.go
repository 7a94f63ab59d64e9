package lockfile_test

import (
	"fmt"
	"reflect"
	"slices"
	"strings"
	"testing"

	"haversack/api"
	"haversack/lockfile"
	"haversack/sha"
)

var sum = sha.Sum([]byte("x"))

func pin(name string, major int, pre ...string) api.Pin {
	return api.Pin{Name: name, V: api.Version{Major: major, Pre: pre}, Sum: sum}
}

func line(name, v string) string { return name + " " + v + " " + sha.Hex(sum) + "\n" }

// many: n pins' lines.
func many(n int) string {
	s := "lock 1\n"
	for i := range n {
		s += line(fmt.Sprintf("n%03d", i), "1.0.0")
	}
	return s
}

func TestP12_1Parse(t *testing.T) {
	l, n, e := lockfile.Parse("lock 1\n" + line("a", "1.0.0-x.2") + line("a-b", "2.0.0") + line("b", "0.0.0"))
	if e != api.OK || n != 0 || !reflect.DeepEqual(l, []api.Pin{pin("a", 1, "x", "2"), pin("a-b", 2), pin("b", 0)}) {
		t.Errorf("%v %d %v", l, n, e)
	}
	if l, n, e := lockfile.Parse("lock 1\n"); e != api.OK || n != 0 || len(l) != 0 {
		t.Errorf("nothing is pinned: %v %d %v", l, n, e)
	}
	if l, _, e := lockfile.Parse(many(200)); e != api.OK || len(l) != 200 {
		t.Errorf("200 pins: %v", e)
	}
}

func TestP12_1Refused(t *testing.T) {
	a := line("a", "1.0.0")
	for _, c := range []struct {
		s    string
		line int
	}{
		{"", 0}, {"\n", 0}, {"lock 1", 0}, {"lock 2\n", 0}, {"lock 12\n", 0}, {"lock 1 \n", 0}, {" lock 1\n", 0}, {"\nlock 1\n", 0}, {a, 0}, {"lock 1\n" + strings.TrimSuffix(a, "\n"), 0}, {"lock 1\nx\n" + strings.TrimSuffix(a, "\n"), 0},
		{"lock 1\n\n", 2}, {"lock 1\n#\n", 2}, {"lock 1\n" + a + "\n", 3}, {"lock 1\n" + a + a, 3}, {"lock 1\n" + line("b", "1.0.0") + a, 3}, {"lock 1\n" + line("a-b", "1.0.0") + a, 3},
		{"lock 1\n" + line("A", "1.0.0"), 2}, {"lock 1\n" + line("", "1.0.0"), 2}, {"lock 1\n" + line("a", "1.0"), 2}, {"lock 1\n" + line("a ", "1.0.0"), 2}, {"lock 1\n" + line("a", " 1.0.0"), 2}, {"lock 1\na 1.0.0\n", 2},
		{"lock 1\na 1.0.0 " + strings.ToUpper(sha.Hex(sum)) + "\n", 2}, {"lock 1\na 1.0.0 " + sha.Hex(sum) + " \n", 2}, {"lock 1\na 1.0.0 " + sha.Hex(sum) + "\r\n", 2}, {"lock 1\n" + a + "lock 1\n", 3}, {many(201), 202},
	} {
		l, n, e := lockfile.Parse(c.s)
		if e != api.ErrLock || n != c.line || l != nil {
			t.Errorf("%.100q: %v at %d, not at %d", c.s, e, n, c.line)
		}
	}
	// A text that is too long is so ahead of all that is wrong in it.
	if _, n, e := lockfile.Parse("lock 1\n" + strings.Repeat("x", api.MaxText-7) + "\n"); e != api.ErrLock || n != 0 {
		t.Errorf("too long: %v at %d", e, n)
	}
	if _, n, e := lockfile.Parse("lock 1\n" + strings.Repeat("x", api.MaxText-8) + "\n"); e != api.ErrLock || n != 2 {
		t.Errorf("as long as may be: %v at %d", e, n)
	}
}

func TestP12_1Text(t *testing.T) {
	l := []api.Pin{pin("b", 1), pin("a", 2), pin("b", 0), pin("a-b", 3, "x")}
	want := "lock 1\n" + line("a", "2.0.0") + line("a-b", "3.0.0-x") + line("b", "1.0.0") + line("b", "0.0.0")
	if got := lockfile.Text(l); got != want {
		t.Errorf("%q", got)
	}
	if l[0].Name != "b" || l[1].Name != "a" {
		t.Error("what was handed in is changed")
	}
	if lockfile.Text(nil) != "lock 1\n" {
		t.Error("of nothing")
	}
}

func TestP12_1Same(t *testing.T) {
	l := []api.Pin{pin("a", 1, "x"), pin("b", 2)}
	if !lockfile.Same(l, slices.Clone(l)) || !lockfile.Same(nil, []api.Pin{}) || !lockfile.Same([]api.Pin{pin("a", 0)}, []api.Pin{pin("a", -3)}) {
		t.Error("not alike")
	}
	other := pin("b", 2)
	other.Sum[31]++
	for _, m := range [][]api.Pin{nil, l[:1], {l[0], pin("b", 3)}, {l[0], pin("c", 2)}, {pin("a", 1), l[1]}, {l[1], l[0]}, {l[0], other}, append(slices.Clone(l), pin("c", 1))} {
		if lockfile.Same(l, m) || lockfile.Same(m, l) {
			t.Errorf("%v", m)
		}
	}
}

func TestP12_2EachListHasOneText(t *testing.T) {
	for _, s := range []string{"lock 1\n", many(3), many(200), "lock 1\n" + line("a", "1.0.0-0.b") + line("b", "999999999.0.1")} {
		l, _, e := lockfile.Parse(s)
		if e != api.OK || lockfile.Text(l) != s {
			t.Errorf("%.100q: %v, %.100q", s, e, lockfile.Text(l))
		}
	}
}
