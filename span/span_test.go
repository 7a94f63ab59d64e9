package span_test

import (
	"strings"
	"testing"

	"haversack/api"
	"haversack/span"
	"haversack/ver"
)

func v(t *testing.T, s string) api.Version {
	t.Helper()
	x, e := ver.Parse(s)
	if e != api.OK {
		t.Fatalf("%q: %v", s, e)
	}
	return x
}

func sp(t *testing.T, s string) api.Span {
	t.Helper()
	x, e := span.Parse(s)
	if e != api.OK {
		t.Fatalf("%q: %v", s, e)
	}
	return x
}

func TestP10_1ParseText(t *testing.T) {
	for s, want := range map[string]string{
		"*": "*", "  * ": "*", "1.0.0": "1.0.0", "=1.0.0": "1.0.0", " <1.0.0  >=0.1.0-a ": "<1.0.0 >=0.1.0-a", "<=1.0.0||>2.0.0": "<=1.0.0 || >2.0.0",
		"^1.2.3": ">=1.2.3 <2.0.0", "^0.2.3": ">=0.2.3 <0.3.0", "^0.0.3": ">=0.0.3 <0.0.4", "^0.0.0": ">=0.0.0 <0.0.1", "^1.2.3-a.1": ">=1.2.3-a.1 <2.0.0", "^0.0.3-a": ">=0.0.3-a <0.0.4",
		"~1.2.3": ">=1.2.3 <1.3.0", "~0.0.3-b": ">=0.0.3-b <0.1.0", "^999999999.1.2": ">=999999999.1.2 <999999999.1.2", "~1.999999999.2-x": ">=1.999999999.2-x <1.999999999.2",
		"1.0.0 ||  2.0.0 3.0.0||~4.0.0": "1.0.0 || 2.0.0 3.0.0 || >=4.0.0 <4.1.0",
	} {
		if got := span.Text(sp(t, s)); got != want {
			t.Errorf("%q: %q, not %q", s, got, want)
		}
	}
	x := sp(t, "1.0.0 <=2.0.0")
	if x.Any || len(x.Or) != 1 || len(x.Or[0]) != 2 || x.Or[0][0].Sign != "=" || x.Or[0][1].Sign != "<=" {
		t.Errorf("%v", x)
	}
	if x := sp(t, "*"); !x.Any || len(x.Or) != 0 {
		t.Errorf("%v", x)
	}
}

func TestP10_1Refused(t *testing.T) {
	eight := strings.Repeat("1.0.0 ", 8)
	for _, s := range []string{
		"", " ", "**", "* *", "*||1.0.0", "1.0.0||*", "||", "1.0.0||", "||1.0.0", "1.0.0|||2.0.0", "1.0.0|2.0.0", "1.0.0 | 2.0.0", "1.0", "x", "> 1.0.0", "=>1.0.0", "==1.0.0", "<>1.0.0", "><1.0.0", "^^1.0.0", "^ 1.0.0", "~>1.0.0",
		"!1.0.0", "1.0.0\t2.0.0", "\t*", "1.0.0\n", "1.0.0,2.0.0", "<", "^", "=", eight + "1.0.0", strings.Repeat("1.0.0||", 8) + "1.0.0", "^01.0.0",
	} {
		if x, e := span.Parse(s); e != api.ErrSpan || x.Any || x.Or != nil {
			t.Errorf("%q: %v %v", s, x, e)
		}
	}
	sp(t, eight)
	sp(t, strings.Repeat("^1.0.0 ", 8))
	sp(t, strings.Repeat("1.0.0||", 7)+eight)
}

func TestP10_2Has(t *testing.T) {
	for _, c := range []struct{ s, in, out string }{
		{"*", "0.0.0 1.2.3", "1.0.0-a"},
		{"1.2.3", "1.2.3", "1.2.4 1.2.2 1.2.3-a"},
		{"<1.2.3", "1.2.2 0.0.0", "1.2.3 1.2.4 1.2.3-a 1.2.2-a"},
		{"<=1.2.3", "1.2.2 1.2.3", "1.2.4 1.2.3-a"},
		{">1.2.3", "1.2.4 2.0.0", "1.2.3 1.2.2 1.2.4-a"},
		{">=1.2.3", "1.2.4 1.2.3", "1.2.2"},
		{"^1.2.0", "1.2.0 1.9.9", "2.0.0 1.1.9 2.0.0-a 1.3.0-a"},
		{"^1.2.0-b", "1.2.0-b 1.2.0-c 1.2.0 1.3.0", "1.2.0-a 1.3.0-c 2.0.0-a 2.0.0"},
		{">1.0.0 <2.0.0 || 3.0.0", "1.5.0 3.0.0", "1.0.0 2.0.0 3.0.1"},
		{"<2.0.0-b", "1.0.0 2.0.0-a", "2.0.0-b 2.0.0 1.0.0-a"},
		{">=1.0.0-a <1.0.0-c || 2.0.0", "1.0.0-b", "1.0.0 2.0.0-b 1.0.0-c"},
		{"1.0.0 || >=2.0.0-a <1.0.0", "1.0.0", "2.0.0-b"},
		{"<1.0.0-z || 1.0.0", "1.0.0-a 1.0.0", "1.0.0-zz"},
		{"2.0.0-a || <3.0.0", "2.0.0-a", "2.0.0-b"},
	} {
		for _, w := range strings.Fields(c.in) {
			if !span.Has(sp(t, c.s), v(t, w)) {
				t.Errorf("%q hasn't %s", c.s, w)
			}
		}
		for _, w := range strings.Fields(c.out) {
			if span.Has(sp(t, c.s), v(t, w)) {
				t.Errorf("%q has %s", c.s, w)
			}
		}
	}
}

func TestP10_2HasByHand(t *testing.T) {
	one, marked := v(t, "1.0.0"), v(t, "1.0.0-a")
	bound := func(sign string, v api.Version) [][]api.Bound { return [][]api.Bound{{{Sign: sign, V: v}}} }
	for what, c := range map[string]struct {
		s    api.Span
		v    api.Version
		want bool
	}{
		"no lists":                 {api.Span{}, one, false},
		"a list of none":           {api.Span{Or: [][]api.Bound{nil}}, one, true},
		"a list of none, marks":    {api.Span{Or: [][]api.Bound{nil}}, marked, false},
		"Any, marks, a list":       {api.Span{Any: true, Or: bound("=", marked)}, marked, false},
		"Any, a list that doesn't": {api.Span{Any: true, Or: bound("<", one)}, one, true},
		"another sign":             {api.Span{Or: bound("!", one)}, one, false},
		"no sign":                  {api.Span{Or: bound("", one)}, one, false},
	} {
		if span.Has(c.s, c.v) != c.want {
			t.Error(what)
		}
	}
}

func TestP10_2Best(t *testing.T) {
	var l []api.Version
	for _, s := range strings.Fields("1.0.0 1.5.0 2.0.0 1.5.0 1.5.1-a 0.1.0") {
		l = append(l, v(t, s))
	}
	for s, want := range map[string]int{"^1.0.0": 1, "*": 2, "<1.0.0": 5, ">=1.5.1-a <2.0.0": 4, "1.0.0||1.5.0": 1} {
		if i, ok := span.Best(sp(t, s), l); !ok || i != want {
			t.Errorf("%q: %d %v", s, i, ok)
		}
	}
	if i, ok := span.Best(sp(t, "3.0.0"), l); ok || i != 0 {
		t.Errorf("none: %d %v", i, ok)
	}
	if i, ok := span.Best(sp(t, "*"), nil); ok || i != 0 {
		t.Errorf("of none: %d %v", i, ok)
	}
}

func TestP10_3ParseOfText(t *testing.T) {
	versions := strings.Fields("0.0.0 0.0.1 0.1.0-a 0.1.0 1.0.0-a 1.0.0-b 1.0.0 1.2.3 1.9.0 2.0.0-a 2.0.0 3.1.0")
	signs := strings.Fields("= < <= > >= ^ ~ ") // and none
	signs = append(signs, "")
	x := uint32(1)
	pick := func(l []string) string {
		x = x*1664525 + 1013904223
		return l[x>>8%uint32(len(l))]
	}
	for range 2000 {
		s := pick(signs) + pick(versions)
		for range 3 {
			s += pick([]string{" ", "||", "  "}) + pick(signs) + pick(versions)
		}
		a := sp(t, s)
		b := sp(t, span.Text(a))
		for _, w := range versions {
			if span.Has(a, v(t, w)) != span.Has(b, v(t, w)) {
				t.Fatalf("%q and %q of %s", s, span.Text(a), w)
			}
		}
	}
}
