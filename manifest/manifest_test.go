package manifest_test

import (
	"fmt"
	"reflect"
	"strings"
	"testing"

	"haversack/api"
	"haversack/manifest"
	"haversack/span"
	"haversack/ver"
)

func parse(t *testing.T, s string) api.Manifest {
	t.Helper()
	m, line, e := manifest.Parse(s)
	if e != api.OK || line != 0 {
		t.Fatalf("%q: %v at %d", s, e, line)
	}
	return m
}

func need(name, text string) api.Need {
	s, _ := span.Parse(text)
	return api.Need{Name: name, Span: s, Text: text}
}

const head = "name a\nversion 1.0.0\n"

// many: n needs.
func many(n int) string {
	s := ""
	for i := range n {
		s += fmt.Sprintf("need n%02d *\n", i)
	}
	return s
}

func TestP11_1Name(t *testing.T) {
	for _, s := range []string{"a", "z9", "a-b--", "x0-", strings.Repeat("n", 32)} {
		if !manifest.Name(s) {
			t.Errorf("%q is none", s)
		}
	}
	for _, s := range []string{"", "A", "aB", "9", "-", "-a", "1a", "a_b", "a.b", "a b", "a/b", "é", "aé", "a{", "a`", "a/", "a:", "a\n", strings.Repeat("n", 33)} {
		if manifest.Name(s) {
			t.Errorf("%q is one", s)
		}
	}
}

func TestP11_1Parse(t *testing.T) {
	m := parse(t, "# mine\n\nname a\n#\nversion 1.0.0-b.2\nneed z ^1.0.0\n\n#need\nneed b  1.0.0||2.0.0 \nneed c-9 *")
	want := api.Manifest{Name: "a", V: api.Version{Major: 1, Pre: []string{"b", "2"}}, Needs: []api.Need{need("b", " 1.0.0||2.0.0 "), need("c-9", "*"), need("z", "^1.0.0")}}
	if !reflect.DeepEqual(m, want) {
		t.Errorf("%v", m)
	}
	if m := parse(t, "name a\nversion 1.0.0"); len(m.Needs) != 0 {
		t.Error("needs")
	}
	if m := parse(t, head+many(20)); len(m.Needs) != 20 {
		t.Error("20 needs")
	}
}

func TestP11_1Refused(t *testing.T) {
	for _, c := range []struct {
		s    string
		line int
	}{
		{"", 0}, {"\n\n", 0}, {"name a", 0}, {"name a\n#version 1.0.0\n", 0}, {"# only\n", 0},
		{"version 1.0.0\nname a\n", 1}, {"\n#\nname A\n", 3}, {"name a \nversion 1.0.0", 1}, {"name  a\n", 1}, {"name\n", 1}, {"named a\n", 1}, {" name a\n", 1}, {"name a\r\n", 1}, {" \n", 1},
		{"name a\nversion 1.0\n", 2}, {"name a\n\nversion\n", 3}, {"name a\nversion  1.0.0\n", 2}, {"name a\nneed b *\n", 2}, {"name a\nname b\n", 2},
		{head + "need", 3}, {head + "need ", 3}, {head + "need b", 3}, {head + "need b ", 3}, {head + "need  b *", 3}, {head + "need B *", 3}, {head + "need b\t*", 3}, {head + "need b x", 3}, {head + "needs b *", 3}, {head + "name a", 3},
		{head + "need a *", 3}, {head + "need b *\n\nneed c *\nneed b *\nneed d x", 6}, {head + many(21), 23}, {head + many(20) + "\n# x\nneed z *\n", 25}, {head + " # x", 3},
	} {
		m, line, e := manifest.Parse(c.s)
		if e != api.ErrManifest || line != c.line || !reflect.DeepEqual(m, api.Manifest{}) {
			t.Errorf("%q: %v at %d, not at %d", c.s, e, line, c.line)
		}
	}
	long := head + "#" + strings.Repeat("x", api.MaxText-len(head)-1)
	parse(t, long)
	if _, line, e := manifest.Parse("x" + long); e != api.ErrManifest || line != 0 {
		t.Errorf("too long: %v at %d", e, line)
	}
}

func TestP11_2Text(t *testing.T) {
	m := api.Manifest{Name: "p", V: api.Version{Minor: 2}, Needs: []api.Need{need("z", "1.0.0"), need("b", " * "), need("c", "^1.0.0")}}
	if s := manifest.Text(m); s != "name p\nversion 0.2.0\nneed b  * \nneed c ^1.0.0\nneed z 1.0.0\n" {
		t.Errorf("%q", s)
	}
	if m.Needs[0].Name != "z" {
		t.Error("what was handed in is changed")
	}
}

func TestP11_2Add(t *testing.T) {
	m := parse(t, head+"need c 1.0.0\nneed e 1.0.0\n")
	before := manifest.Text(m)
	for name, want := range map[string]string{
		"b": "need b *\nneed c 1.0.0\nneed e 1.0.0\n", "c": "need c *\nneed e 1.0.0\n", "d": "need c 1.0.0\nneed d *\nneed e 1.0.0\n", "e": "need c 1.0.0\nneed e *\n", "f": "need c 1.0.0\nneed e 1.0.0\nneed f *\n",
	} {
		got, e := manifest.Add(m, need(name, "*"))
		if e != api.OK || manifest.Text(got) != head+want || !got.Needs[0].Span.Any && name == "b" {
			t.Errorf("%s: %v %q", name, e, manifest.Text(got))
		}
		got.Needs[0].Name = "x"
		if manifest.Text(m) != before {
			t.Fatal("what was handed in is changed")
		}
	}
	for _, name := range []string{"", "A", "a", "-", strings.Repeat("n", 33)} {
		if got, e := manifest.Add(m, need(name, "*")); e != api.ErrManifest || !reflect.DeepEqual(got, api.Manifest{}) {
			t.Errorf("%q: %v", name, e)
		}
	}
	full := parse(t, head+many(20))
	if _, e := manifest.Add(full, need("z", "*")); e != api.ErrManifest {
		t.Errorf("one need more: %v", e)
	}
	if got, e := manifest.Add(full, need("n07", "1.0.0")); e != api.OK || len(got.Needs) != 20 || got.Needs[7].Text != "1.0.0" {
		t.Errorf("in the place of one: %v", e)
	}
}

func TestP11_2Remove(t *testing.T) {
	m := parse(t, head+"need c 1.0.0\nneed e 1.0.0\n")
	got, ok := manifest.Remove(m, "c")
	if !ok || manifest.Text(got) != head+"need e 1.0.0\n" {
		t.Errorf("%q", manifest.Text(got))
	}
	got, ok = manifest.Remove(m, "d")
	if ok || !reflect.DeepEqual(got, m) {
		t.Errorf("none: %q", manifest.Text(got))
	}
	got.Needs[0].Name = "x"
	if m.Needs[0].Name != "c" || m.Needs[1].Name != "e" {
		t.Error("what was handed in is changed")
	}
}

func TestP11_3ParseOfText(t *testing.T) {
	for _, s := range []string{head, "#\n" + head + "need z   ^1.0.0-a \nneed b 1.0.0 ||* \n", head + many(20), "name a\nversion 1.2.3-x.1\nneed b <2.0.0 >=1.0.0||3.0.0"} {
		m, _, e := manifest.Parse(s)
		if e != api.OK {
			continue
		}
		if again := parse(t, manifest.Text(m)); !reflect.DeepEqual(again, m) {
			t.Errorf("%q: %v, not %v", s, again, m)
		}
		if _, e := ver.Parse(ver.Text(m.V)); e != api.OK {
			t.Error(e)
		}
	}
}
