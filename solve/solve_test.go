package solve_test

import (
	"fmt"
	"math/rand"
	"reflect"
	"slices"
	"strings"
	"testing"

	"haversack/api"
	"haversack/index"
	"haversack/sha"
	"haversack/solve"
	"haversack/span"
	"haversack/ver"
)

const full = 1 << 20

// rows: of an index, short: "a1 b>=2 c*; a2; .." (a version's number is its Major).
func rows(t *testing.T, s string) []api.Row {
	t.Helper()
	var b strings.Builder
	for _, r := range strings.Split(s, ";") {
		w := strings.Fields(r)
		if len(w) == 0 {
			continue
		}
		fmt.Fprintf(&b, "pack %s %s.0.0 %s 1\n", w[0][:1], w[0][1:], sha.Hex(sha.Sum([]byte(w[0]))))
		for _, n := range needs(t, strings.Join(w[1:], " ")) {
			fmt.Fprintf(&b, "need %s %s\n", n.Name, n.Text)
		}
	}
	l, line, e := index.Parse(b.String())
	if e != api.OK {
		t.Fatalf("%.200q: %v at %d", s, e, line)
	}
	return l
}

func needs(t *testing.T, s string) []api.Need {
	t.Helper()
	var out []api.Need
	for _, w := range strings.Fields(s) {
		text := w[1:]
		if text != "*" {
			text = strings.ReplaceAll(text, "|", ".0.0||") + ".0.0"
			text = strings.ReplaceAll(text, "&", ".0.0 ")
		}
		sp, e := span.Parse(text)
		if e != api.OK {
			t.Fatalf("%q", text)
		}
		out = append(out, api.Need{Name: w[:1], Span: sp, Text: text})
	}
	slices.SortFunc(out, func(a, b api.Need) int { return strings.Compare(a.Name, b.Name) })
	return out
}

// pins: "a1 b2" as pins.
func pins(s string) []api.Pin {
	var out []api.Pin
	for _, w := range strings.Fields(s) {
		v, _ := ver.Parse(w[1:] + ".0.0")
		out = append(out, api.Pin{Name: w[:1], V: v, Sum: sha.Sum([]byte(w))})
	}
	return out
}

func look(l []api.Pin) string {
	var out []string
	for _, p := range l {
		out = append(out, fmt.Sprint(p.Name, p.V.Major))
	}
	return strings.Join(out, " ")
}

func TestP15_1Fits(t *testing.T) {
	r := rows(t, "a1 b>=2; a2 b1; b1; b2 c*; c1; d1 e*; e1 d*; f1")
	for _, c := range []struct {
		needs, pins string
		want        bool
	}{
		{"", "", true}, {"a*", "", false}, {"", "c1", false}, {"c*", "c1", true}, {"c2", "c1", false}, {"c*", "c2", false},
		{"a*", "a1 b2 c1", true}, {"a*", "a1 b2", false}, {"a*", "a1 b1", false}, {"a*", "a2 b1", true}, {"a*", "a2 b1 c1", false}, {"a* c*", "a2 b1 c1", true}, {"a1", "a2 b1", false},
		{"a*", "b2 a1 c1", false}, {"a*", "a1 a1 b2 c1", false}, {"c*", "c1 c1", false}, {"c*", "c1 d1 e1", false}, {"d*", "d1 e1", true}, {"f*", "f1 g1", false}, {"z*", "", false}, {"c* z*", "c1", false},
	} {
		if got := solve.Fits(r, needs(t, c.needs), pins(c.pins)); got != c.want {
			t.Errorf("%q, %q: %v", c.needs, c.pins, got)
		}
	}
	bad := pins("c1")
	bad[0].Sum[0]++
	if solve.Fits(r, needs(t, "c*"), bad) {
		t.Error("another sum")
	}
	bad = pins("c1")
	bad[0].V.Pre = []string{"x"}
	if solve.Fits(r, needs(t, "c*"), bad) {
		t.Error("another version")
	}
}

func TestP15_2Better(t *testing.T) {
	for _, c := range []struct {
		a, b string
		want bool
	}{
		{"", "", false}, {"a1", "a1", false}, {"a1", "", true}, {"", "a1", false}, {"a2", "a1", true}, {"a1", "a2", false}, {"a1 b1", "a2", false}, {"a2", "a1 b1", true}, {"a1 b1", "a1", true}, {"a1", "a1 b1", false},
		{"a1 c9", "a1 b1", false}, {"a1 b1", "a1 c9", true}, {"b1", "a1", false}, {"a1", "b9", true}, {"a1 b2 c1", "a1 b2 c3", false}, {"a1 b2 c3", "a1 b2 c1", true}, {"a1 b2 d1", "a1 b2 c1 d2", false},
	} {
		if got := solve.Better(pins(c.a), pins(c.b)); got != c.want {
			t.Errorf("%q, %q: %v", c.a, c.b, got)
		}
	}
	x := pins("a1")
	y := pins("a1")
	y[0].Sum[0]++
	if solve.Better(x, y) || solve.Better(y, x) {
		t.Error("sums alone tell nothing")
	}
	y[0].V.Pre = []string{"b"}
	if !solve.Better(x, y) || solve.Better(y, x) {
		t.Error("marks tell")
	}
}

func TestP15_3Solve(t *testing.T) {
	for _, c := range []struct{ rows, needs, want string }{
		{"", "", ""}, {"a1;a2", "", ""}, {"a1;a3;a2", "a*", "a3"}, {"a1;a3;a2", "a<3", "a2"}, {"a1", "a2", "-"}, {"a1", "b*", "-"}, {"", "a*", "-"},
		{"a1; a2 b2; b1", "a*", "a1"}, {"a1 b1; a2 b2; b1; b2", "a* b1", "a1 b1"}, {"a1; a2 b*; b1 a1", "a*", "a1"}, {"a1 b*; b1 a*", "a*", "a1 b1"}, {"a1 b*; b1 c*; c1 z*", "a*", "-"},
		// a is better there than not, even if z must be the lesser one for it.
		{"a1; z1 a*; z2", "z*", "a1 z1"},
		{"a1 c1; c1; c2; z1 a*; z2 c2", "z*", "a1 c1 z1"},
		// b may be left out only where a3 is taken; a comes first.
		{"a3; a2 b*; b1", "a*", "a3"}, {"a2 b*; b1; b2 c*; c1", "a*", "a2 b2 c1"},
		// what only unreached ones need isn't there.
		{"a1; b1 c*; c1 b*", "a*", "a1"}, {"a1; b1 a*", "a*", "a1"},
		{"a1 b1|3; a2 b>=2&<3; b1; b2 d*; b3", "a*", "a1 b3"},
	} {
		got, e := solve.Solve(rows(t, c.rows), needs(t, c.needs), full)
		if c.want == "-" {
			if e != api.ErrUnsat || got != nil {
				t.Errorf("%q, %q: %v %q", c.rows, c.needs, e, look(got))
			}
		} else if e != api.OK || look(got) != c.want {
			t.Errorf("%q, %q: %v %q, not %q", c.rows, c.needs, e, look(got), c.want)
		}
	}
}

func TestP15_3Budget(t *testing.T) {
	for _, b := range []int{0, -1, -1 << 62} {
		if got, e := solve.Solve(nil, nil, b); e != api.ErrExhausted || got != nil {
			t.Errorf("%d: %v", b, e)
		}
	}
	if _, e := solve.Solve(nil, nil, 1); e != api.OK {
		t.Error("no needs, the least budget")
	}
	r := rows(t, "a1; a2; b1; b2")
	for _, b := range []int{1, 2, 3, full, api.MaxBudget, 1 << 62} {
		if got, e := solve.Solve(r, needs(t, "a* b*"), b); e != api.ErrExhausted && look(got) != "a2 b2" || b >= full && e != api.OK {
			t.Errorf("%d: %v %q", b, e, look(got))
		}
	}
}

// best: the greatest of all sets of pins that Fits, gone through one by one (none: "-").
func best(r []api.Row, n []api.Need) string {
	names := index.Names(r)
	found := false
	var top []api.Pin
	var try func(i int, l []api.Pin)
	try = func(i int, l []api.Pin) {
		if i == len(names) {
			if solve.Fits(r, n, l) && (!found || solve.Better(l, top)) {
				found, top = true, slices.Clone(l)
			}
			return
		}
		try(i+1, l)
		for _, x := range r {
			if x.Name == names[i] {
				try(i+1, append(slices.Clone(l), api.Pin{Name: x.Name, V: x.V, Sum: x.Sum}))
			}
		}
	}
	try(0, nil)
	if !found {
		return "-"
	}
	return look(top)
}

// puzzle: rows of so many names with up to so many versions each, and needs, of which a share is there.
func puzzle(t *testing.T, rnd *rand.Rand, names, versions, share int) ([]api.Row, []api.Need) {
	some := func(not int) string {
		var out []string
		for i := range names {
			if i != not && rnd.Intn(100) < share {
				out = append(out, fmt.Sprintf("%c%s", 'a'+i, []string{"*", fmt.Sprint(">=", 1+rnd.Intn(versions)), fmt.Sprint("<=", 1+rnd.Intn(versions)), fmt.Sprint(1+rnd.Intn(versions), "|", 1+rnd.Intn(versions))}[rnd.Intn(4)]))
			}
		}
		return strings.Join(out, " ")
	}
	var b strings.Builder
	for i := range names {
		for v := range 1 + rnd.Intn(versions) {
			fmt.Fprintf(&b, "%c%d %s;", 'a'+i, v+1, some(i))
		}
	}
	return rows(t, b.String()), needs(t, some(-1))
}

func TestP15_4TheGreatest(t *testing.T) {
	rnd := rand.New(rand.NewSource(1))
	sat := 0
	for i := range 1500 {
		r, n := puzzle(t, rnd, 1+i%6, 1+rnd.Intn(3), 10+rnd.Intn(60))
		want := best(r, n)
		kept := fmt.Sprint(r, n)
		got, e := solve.Solve(r, n, full)
		switch {
		case want == "-" && (e != api.ErrUnsat || got != nil), want != "-" && (e != api.OK || look(got) != want):
			t.Fatalf("%s\n%v\n%v %q, not %q", index.Text(r), n, e, look(got), want)
		case e == api.OK:
			sat++
			if !solve.Fits(r, n, got) {
				t.Fatal("what is told doesn't fit")
			}
		}
		if fmt.Sprint(r, n) != kept {
			t.Fatal("what was handed in is changed")
		}
	}
	if sat < 100 || sat > 1400 {
		t.Errorf("%d of them fit: the puzzles show little", sat)
	}
}

// first: the greatest set that Fits, as a search tells that goes through names in order, each from its best choice on.
func first(r []api.Row, n []api.Need) string {
	names := index.Names(r)
	chosen := map[string]*api.Row{} // of the names that are decided; nil: left out
	met := func(l []api.Need) bool {
		for _, x := range l {
			if row, decided := chosen[x.Name]; decided && (row == nil || !span.Has(x.Span, row.V)) {
				return false
			}
		}
		return true
	}
	fine := func() bool {
		for _, row := range chosen {
			if row != nil && !met(row.Needs) {
				return false
			}
		}
		return met(n)
	}
	var try func(i int, l []api.Pin) (string, bool)
	try = func(i int, l []api.Pin) (string, bool) {
		if i == len(names) {
			return look(l), solve.Fits(r, n, l)
		}
		defer delete(chosen, names[i])
		for _, v := range index.Versions(r, names[i]) {
			row, _ := index.Find(r, names[i], v)
			if chosen[names[i]] = &row; fine() {
				if s, ok := try(i+1, append(slices.Clone(l), api.Pin{Name: row.Name, V: row.V, Sum: row.Sum})); ok {
					return s, true
				}
			}
		}
		if chosen[names[i]] = nil; fine() {
			return try(i+1, l)
		}
		return "", false
	}
	if s, ok := try(0, nil); ok {
		return s
	}
	return "-"
}

// tangle: names of m versions each, each of which needs some of the others in some versions; the first few are needed.
func tangle(t *testing.T, rnd *rand.Rand, names, m, share, few int) ([]api.Row, []api.Need) {
	var b, n strings.Builder
	for i := range names {
		for v := range m {
			fmt.Fprintf(&b, "%c%d", 'a'+i, v+1)
			for j := range names {
				if j != i && rnd.Intn(100) < share {
					fmt.Fprintf(&b, " %c%d|%d", 'a'+j, 1+rnd.Intn(m), 1+rnd.Intn(m))
				}
			}
			b.WriteString(";")
		}
		if i < few {
			fmt.Fprintf(&n, "%c* ", 'a'+i)
		}
	}
	return rows(t, b.String()), needs(t, n.String())
}

func TestP15_4TheGreatestOfTangles(t *testing.T) {
	rnd := rand.New(rand.NewSource(8))
	sat := 0
	for i := range 200 {
		r, n := tangle(t, rnd, 8, 5, 22+i%16, []int{1, 4, 8}[i%3])
		want := first(r, n)
		got, e := solve.Solve(r, n, full)
		if want == "-" && e != api.ErrUnsat || want != "-" && look(got) != want {
			t.Fatalf("%s\n%v %q, not %q", index.Text(r), e, look(got), want)
		}
		if e == api.OK {
			sat++
		}
	}
	if sat < 20 || sat > 180 {
		t.Errorf("%d of them fit: the tangles show little", sat)
	}
}

func TestP15_3NeverExhaustedOfFew(t *testing.T) {
	rnd := rand.New(rand.NewSource(2))
	for i := range 3000 {
		r, n := puzzle(t, rnd, 12, 5, 3+i%50)
		if len(r) > 40 {
			r = r[:40]
		}
		if _, e := solve.Solve(r, n, full); e == api.ErrExhausted {
			t.Fatal(index.Text(r))
		}
	}
}

func TestP15_3OneOfSeveral(t *testing.T) {
	// Eleven names, of which a version of z needs one alone: each is there only with that version.
	var b strings.Builder
	for i := range 11 {
		for v := range 3 {
			fmt.Fprintf(&b, "%c%d;", 'a'+i, v+1)
		}
	}
	for i := range 7 {
		fmt.Fprintf(&b, "z%d %c*;", i+1, 'a'+10-i)
	}
	if got, e := solve.Solve(rows(t, b.String()), needs(t, "z*"), full); e != api.OK || look(got) != "e3 z7" {
		t.Errorf("%v %q", e, look(got))
	}
}

// apart: n names of m versions each, no two of which may have the same one.
func apart(t *testing.T, n, m int) ([]api.Row, []api.Need) {
	var b, all strings.Builder
	for i := range n {
		fmt.Fprintf(&all, "%c* ", 'a'+i)
		for v := range m {
			fmt.Fprintf(&b, "%c%d", 'a'+i, v+1)
			for j := range n {
				if j != i {
					fmt.Fprintf(&b, " %c<%d|>%d", 'a'+j, v+1, v+1)
				}
			}
			b.WriteString(";")
		}
	}
	return rows(t, b.String()), needs(t, all.String())
}

func TestP15_3Apart(t *testing.T) {
	r, n := apart(t, 6, 6)
	if got, e := solve.Solve(r, n, full); e != api.OK || look(got) != "a6 b5 c4 d3 e2 f1" {
		t.Errorf("%v %q", e, look(got))
	}
	r, n = apart(t, 7, 5)
	if _, e := solve.Solve(r, n, full); e != api.ErrUnsat {
		t.Error(e)
	}
	r, n = apart(t, 12, 11) // more than the budget is for
	if got, e := solve.Solve(r, n, 1<<14); e == api.OK || got != nil {
		t.Error(e)
	}
}

func TestP15EndsOfMany(t *testing.T) {
	rnd := rand.New(rand.NewSource(3))
	var b strings.Builder
	for i := range 20 { // hard ones: each version needs some of each other name's
		for v := range 10 {
			fmt.Fprintf(&b, "%c%d", 'a'+i, v+1)
			for j := range 20 {
				if j != i && rnd.Intn(5) == 0 {
					fmt.Fprintf(&b, " %c%d|%d|%d", 'a'+j, 1+rnd.Intn(10), 1+rnd.Intn(10), 1+rnd.Intn(10))
				}
			}
			b.WriteString(";")
		}
	}
	r := rows(t, b.String())
	n := needs(t, "a* b* c* d* e* f* g* h*")
	got, e := solve.Solve(r, n, full)
	again, e2 := solve.Solve(r, n, full)
	if e != e2 || !reflect.DeepEqual(got, again) || e == api.OK && !solve.Fits(r, n, got) {
		t.Errorf("%v %v", e, e2)
	}
	if _, e := solve.Solve(append(r, r...), n, full); e == api.OK {
		t.Log("more rows than an index may have")
	}
}
