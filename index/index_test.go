package index_test

import (
	"fmt"
	"reflect"
	"slices"
	"strings"
	"testing"

	"haversack/api"
	"haversack/index"
	"haversack/sha"
	"haversack/span"
	"haversack/ver"
)

var hex = sha.Hex(sha.Sum([]byte("x")))

func pack(name, v string) string { return "pack " + name + " " + v + " " + hex + " 5\n" }

func need(name, text string) api.Need {
	s, _ := span.Parse(text)
	return api.Need{Name: name, Span: s, Text: text}
}

func parse(t *testing.T, s string) []api.Row {
	t.Helper()
	l, line, e := index.Parse(s)
	if e != api.OK || line != 0 {
		t.Fatalf("%.200q: %v at %d", s, e, line)
	}
	return l
}

func many(n int, line string) string {
	s := ""
	for i := range n {
		s += fmt.Sprintf(line, i)
	}
	return s
}

func TestP14_1Parse(t *testing.T) {
	got := parse(t, "# an index\n\npack b 1.0.0-x "+hex+" 000000007\nneed z ^1.0.0\n\n#\nneed a  * \npack a 2.0.0 "+hex+" 262144\npack b 1.0.0 "+hex+" 0")
	sum := sha.Sum([]byte("x"))
	want := []api.Row{
		{Name: "b", V: api.Version{Major: 1, Pre: []string{"x"}}, Sum: sum, Size: 7, Needs: []api.Need{need("a", " * "), need("z", "^1.0.0")}},
		{Name: "a", V: api.Version{Major: 2}, Sum: sum, Size: api.MaxArchive}, {Name: "b", V: api.Version{Major: 1}, Sum: sum},
	}
	if !reflect.DeepEqual(got, want) {
		t.Errorf("%v", got)
	}
	if len(parse(t, "")) != 0 || len(parse(t, "\n#\n\n")) != 0 {
		t.Error("of nothing")
	}
	if l := parse(t, many(200, "pack a %d.0.0 "+hex+" 1\n")+many(20, "need n%d *\n")); len(l) != 200 || len(l[199].Needs) != 20 {
		t.Error("as many as may be")
	}
}

func TestP14_1Refused(t *testing.T) {
	a := pack("a", "1.0.0")
	for _, c := range []struct {
		s    string
		line int
	}{
		{"x", 1}, {"\n\npacks", 3}, {"pack", 1}, {"pack ", 1}, {" " + a, 1}, {"need b *", 1}, {"#\nneed b *\n" + a, 2}, {a + "\nneed", 3}, {a + "need b", 2}, {a + "need b ", 2}, {a + "need  b *", 2}, {a + "need B *", 2}, {a + "need b 1.0", 2},
		{a + "need a *", 2}, {a + "need b *\nneed c *\nneed b 1.0.0", 4}, {a + many(21, "need n%d *\n"), 22}, {a + a, 2}, {a + pack("b", "1.0.0") + "#\n" + a, 4}, {many(201, "pack a %d.0.0 "+hex+" 1\n"), 201},
		{pack("A", "1.0.0"), 1}, {pack("a", "1.0"), 1}, {pack("a ", "1.0.0"), 1}, {"pack a 1.0.0 " + hex[1:] + " 5", 1}, {"pack a 1.0.0 " + hex, 1}, {"pack a 1.0.0 " + hex + " ", 1}, {"pack a 1.0.0 " + hex + " 5 ", 1}, {"pack a 1.0.0 " + hex + " -5", 1}, {"pack a 1.0.0 " + hex + " +5", 1},
		{"pack a 1.0.0 " + hex + " 0x5", 1}, {"pack a 1.0.0 " + hex + " 0000000005", 1}, {"pack a 1.0.0 " + hex + " 262145", 1}, {"pack a 1.0.0 " + hex + " 5\r", 1}, {a + "name x", 2},
	} {
		l, line, e := index.Parse(c.s)
		if e != api.ErrIndex || line != c.line || l != nil {
			t.Errorf("%.200q: %v at %d, not at %d", c.s, e, line, c.line)
		}
	}
	long := "#" + strings.Repeat("x", api.MaxText-1)
	parse(t, long)
	if _, line, e := index.Parse(long + "x"); e != api.ErrIndex || line != 0 {
		t.Errorf("too long: %v at %d", e, line)
	}
}

func TestP14_1Text(t *testing.T) {
	s := pack("b", "1.0.0-x") + "need a  * \nneed z ^1.0.0\n" + pack("a", "2.0.0") + pack("b", "0.1.0")
	if got := index.Text(parse(t, "#\n"+strings.ReplaceAll(s, " 5\n", " 0005\n"))); got != s {
		t.Errorf("%q", got)
	}
	if index.Text(nil) != "" {
		t.Error("of nothing")
	}
}

func TestP14_2Find(t *testing.T) {
	l := parse(t, pack("b", "1.0.0")+pack("a", "1.0.0")+"need c *\n"+pack("a", "1.0.0-x")+pack("a", "2.0.0"))
	v, _ := ver.Parse("1.0.0")
	r, ok := index.Find(l, "a", v)
	if !ok || !reflect.DeepEqual(r, l[1]) {
		t.Errorf("%v", r)
	}
	r.Needs[0].Name = "x"
	if l[1].Needs[0].Name != "c" {
		t.Error("memory is shared")
	}
	two := append(slices.Clone(l), l[1])
	two[4].Size = 99
	if r, _ := index.Find(two, "a", v); r.Size != 5 {
		t.Error("not the first")
	}
	for _, name := range []string{"c", ""} {
		if r, ok := index.Find(l, name, v); ok || !reflect.DeepEqual(r, api.Row{}) {
			t.Errorf("%q: %v", name, r)
		}
	}
	if _, ok := index.Find(l, "b", api.Version{Major: 1, Pre: []string{"x"}}); ok {
		t.Error("another version")
	}
}

func TestP14_2NamesVersions(t *testing.T) {
	l := parse(t, pack("b", "1.0.0")+pack("a-b", "1.0.0")+pack("b", "1.0.0-a.2")+pack("a", "3.0.0")+pack("b", "1.0.0-a.10")+pack("b", "2.0.0"))
	if got := index.Names(l); !slices.Equal(got, []string{"a", "a-b", "b"}) {
		t.Errorf("%q", got)
	}
	var got []string
	for _, v := range index.Versions(l, "b") {
		got = append(got, ver.Text(v))
	}
	if !slices.Equal(got, []string{"2.0.0", "1.0.0", "1.0.0-a.10", "1.0.0-a.2"}) {
		t.Errorf("%q", got)
	}
	if len(index.Versions(l, "c")) != 0 || len(index.Names(nil)) != 0 {
		t.Error("of nothing")
	}
}

func TestP14_3ParseOfText(t *testing.T) {
	for _, s := range []string{"", "#\n" + pack("b", "1.0.0") + "need z  ^1.0.0 || 2.0.0-a \n\nneed a *\n", many(200, "pack a %d.0.0-x.1 "+hex+" 00%[1]d\nneed b *\n")} {
		l := parse(t, s)
		if again := parse(t, index.Text(l)); !reflect.DeepEqual(again, l) {
			t.Errorf("%.200q", s)
		}
	}
}
