package why_test

import (
	"fmt"
	"math/rand"
	"slices"
	"strings"
	"testing"

	"haversack/api"
	"haversack/index"
	"haversack/sha"
	"haversack/solve"
	"haversack/span"
	"haversack/why"
)

// rows: "a1 b* c2; b1; .." as an index's rows.
func rows(t *testing.T, s string) []api.Row {
	t.Helper()
	var b strings.Builder
	for _, r := range strings.Split(s, ";") {
		w := strings.Fields(r)
		fmt.Fprintf(&b, "pack %s %s.0.0 %s 1\n", w[0][:1], w[0][1:], sha.Hex(sha.Sum([]byte(w[0]))))
		for _, n := range needs(strings.Join(w[1:], " ")) {
			fmt.Fprintf(&b, "need %s %s\n", n.Name, n.Text)
		}
	}
	l, line, e := index.Parse(b.String())
	if e != api.OK {
		t.Fatalf("%q: %v at %d", s, e, line)
	}
	return l
}

func needs(s string) []api.Need {
	var out []api.Need
	for _, w := range strings.Fields(s) {
		text := "*"
		if w[1:] != "*" {
			text = w[1:] + ".0.0"
		}
		sp, _ := span.Parse(text)
		out = append(out, api.Need{Name: w[:1], Span: sp, Text: text})
	}
	return out
}

func solved(t *testing.T, r []api.Row, n []api.Need) []api.Pin {
	t.Helper()
	l, e := solve.Solve(r, n, 1<<20)
	if e != api.OK {
		t.Fatal(e)
	}
	return l
}

func TestP16_1Path(t *testing.T) {
	r := rows(t, "a1 b* d*; b1 c*; c1 e*; d1 e* f*; e1 c*; f1 a*; g1; h1 f*; a2 z*; z1")
	n := needs("a1 h*")
	p := solved(t, r, n)
	for name, want := range map[string]string{
		"a": "a", "h": "h", "b": "a b", "d": "a d", "c": "a b c", "e": "a d e", "f": "h f", "g": "", "z": "", "": "", "x": "",
	} {
		if got := strings.Join(why.Path(r, n, p, name), " "); got != want {
			t.Errorf("%s: %q, not %q", name, got, want)
		}
	}
	// Of several as short the first in order of names, from the left.
	r = rows(t, "a1 y* z*; b1 c*; c1; x1 t*; y1 t*; z1 s*; s1 u*; t1 u*; u1; w1 x*")
	n = needs("a* b* w*")
	p = solved(t, r, n)
	for name, want := range map[string]string{"t": "a y t", "u": "a y t u", "s": "a z s", "c": "b c", "x": "w x"} {
		if got := strings.Join(why.Path(r, n, p, name), " "); got != want {
			t.Errorf("%s: %q, not %q", name, got, want)
		}
	}
	if why.Path(r, nil, nil, "a") != nil {
		t.Error("of nothing")
	}
}

func TestP16_1TheShortestAndFirst(t *testing.T) {
	rnd := rand.New(rand.NewSource(2))
	for range 300 {
		edges := map[string][]string{}
		var b []string
		some := func(not string) (out []string) {
			for i := range 8 {
				if n := string(rune('a' + i)); n != not && rnd.Intn(4) == 0 {
					out = append(out, n+"*")
				}
			}
			return out
		}
		for i := range 8 {
			n := string(rune('a' + i))
			edges[n] = some(n)
			b = append(b, n+"1 "+strings.Join(edges[n], " "))
		}
		r := rows(t, strings.Join(b, ";"))
		edges[""] = some("")
		n := needs(strings.Join(edges[""], " "))
		p := solved(t, r, n)
		best := map[string]string{}
		var walk func(at, way string)
		walk = func(at, way string) { // every way that meets no name twice
			for _, e := range edges[at] {
				x := e[:1]
				if strings.Contains(way, x) {
					continue
				}
				if known := best[x]; known == "" || len(way)+1 < len(known) || len(way)+1 == len(known) && way+x < known {
					best[x] = way + x
				}
				walk(x, way+x)
			}
		}
		walk("", "")
		for i := range 8 {
			name := string(rune('a' + i))
			if got := strings.Join(why.Path(r, n, p, name), ""); got != best[name] {
				t.Fatalf("%q, %v: %s: %q, not %q", b, edges[""], name, got, best[name])
			}
		}
	}
}

func TestP16_2Users(t *testing.T) {
	r := rows(t, "a1 b* d*; b1 d*; d1; c1 d*; a2; d2 b*")
	n := needs("a1 d1")
	p := solved(t, r, n)
	for name, want := range map[string][]string{"d": {"", "a", "b"}, "b": {"a"}, "a": {""}, "c": nil, "x": nil} {
		if got := why.Users(r, n, p, name); !slices.Equal(got, want) {
			t.Errorf("%s: %q, not %q", name, got, want)
		}
	}
	// Any pins: a pin's row is that of its name and version, whatever its sum.
	odd := []api.Pin{{Name: "c", V: api.Version{Major: 1}}, {Name: "d", V: api.Version{Major: 2}}, {Name: "a", V: api.Version{Major: 1}}, {Name: "b", V: api.Version{Major: 7}}, {Name: "q"}}
	if got := why.Users(r, nil, odd, "d"); !slices.Equal(got, []string{"a", "c"}) {
		t.Errorf("%q", got)
	}
	if got := why.Users(r, nil, odd, "b"); !slices.Equal(got, []string{"a", "d"}) {
		t.Errorf("%q", got)
	}
}

func TestP16_2Core(t *testing.T) {
	r := rows(t, "a1 x1; b1 x2; c1; d1 x2; e1 z*; x1; x2; f1 x3; x3")
	for _, c := range []struct{ needs, want string }{
		{"", ""}, {"a*", ""}, {"a* c*", ""}, {"a* b*", "a b"}, {"a* b* c*", "a b"}, {"a* b* d*", "a d"}, {"a* b* d* f*", "d f"}, {"c* e*", "e"}, {"a* b* e*", "e"}, {"q*", "q"}, {"q* c* b* a*", "q"}, {"d* b* a*", "a d"}, {"c2 a* b*", "c"},
	} {
		if got := strings.Join(why.Core(r, needs(c.needs)), " "); got != c.want {
			t.Errorf("%q: %q, not %q", c.needs, got, c.want)
		}
	}
}

func TestP16_3OfACoreNoneMayBeLeftOut(t *testing.T) {
	rnd := rand.New(rand.NewSource(1))
	some := func(not, many int) string {
		var out []string
		for i := range 8 {
			if i != not && rnd.Intn(10) < many {
				out = append(out, fmt.Sprintf("%c%s", 'a'+i, []string{"*", "1", "2", "3"}[rnd.Intn(4)]))
			}
		}
		return strings.Join(out, " ")
	}
	cores := 0
	for range 300 {
		var b []string
		for i := range 8 {
			for v := range 1 + rnd.Intn(3) {
				b = append(b, fmt.Sprintf("%c%d %s", 'a'+i, v+1, some(i, 3)))
			}
		}
		r := rows(t, strings.Join(b, ";"))
		n := needs(some(-1, 6))
		core := why.Core(r, n)
		in := slices.DeleteFunc(slices.Clone(n), func(x api.Need) bool { return !slices.Contains(core, x.Name) })
		fits := func(l []api.Need) bool { _, e := solve.Solve(r, l, 1<<20); return e == api.OK }
		if fits(n) != (len(core) == 0) || len(core) > 0 && fits(in) || len(in) != len(core) {
			t.Fatalf("%q of %v", core, n)
		}
		for i := range in {
			if !fits(slices.Delete(slices.Clone(in), i, i+1)) {
				t.Fatalf("%q: %s may be left out", core, in[i].Name)
			}
		}
		if len(core) > 0 {
			cores++
		}
	}
	if cores < 30 {
		t.Errorf("%d cores show little", cores)
	}
}
