package ver_test

import (
	"slices"
	"strings"
	"testing"

	"haversack/api"
	"haversack/ver"
)

func v(t *testing.T, s string) api.Version {
	t.Helper()
	x, e := ver.Parse(s)
	if e != api.OK {
		t.Fatalf("Parse(%q): %v", s, e)
	}
	return x
}

func same(a, b api.Version) bool {
	return a.Major == b.Major && a.Minor == b.Minor && a.Patch == b.Patch && slices.Equal(a.Pre, b.Pre)
}

const most = "999999999"

func TestP9_1Parse(t *testing.T) {
	for s, want := range map[string]api.Version{
		"0.0.0": {}, "1.20.3": {Major: 1, Minor: 20, Patch: 3}, most + ".0." + most: {Major: api.MaxPart, Patch: api.MaxPart},
		"1.0.0-a": {Major: 1, Pre: []string{"a"}}, "1.0.0-rc.1.0.-.--A-z9": {Major: 1, Pre: []string{"rc", "1", "0", "-", "--A-z9"}},
		"0.0.0-0": {Pre: []string{"0"}}, "0.0.0-0a.00a.-0": {Pre: []string{"0a", "00a", "-0"}}, "0.0.0-aaaaaaaaaaaaaaaa.9999999999999999": {Pre: []string{strings.Repeat("a", 16), strings.Repeat("9", 16)}},
	} {
		if got := v(t, s); !same(got, want) || ver.Text(got) != s {
			t.Errorf("%q: %v, %q", s, got, ver.Text(got))
		}
	}
	for _, s := range []string{
		"", "1", "1.0", "1.0.0.0", "1.0.", ".1.0", "1..0", "01.0.0", "1.00.0", "1.0.01", "1000000000.0.0", "0.0.9999999999", "a.0.0", "1.0.x", "+1.0.0", "-1.0.0", " 1.0.0", "1.0.0 ", "1.0.0\n",
		"1.0.0-", "1.0.0-.", "1.0.0-a.", "1.0.0-.a", "1.0.0-a..b", "1.0.0-a.b.c.d.e.f", "1.0.0-01", "1.0.0-a.00", "1.0.0-aaaaaaaaaaaaaaaaa", "1.0.0-99999999999999999", "1.0.0-a_b", "1.0.0-é", "1.0.0-a b", "1.0.0+b", "1.0-a.0", "v1.0.0",
		"1.0.0-a/", "1.0.0-a:", "1.0.0-@", "1.0.0-[", "1.0.0-`", "1.0.0-{", strings.Repeat("1", 1000) + ".0.0",
	} {
		if got, e := ver.Parse(s); e != api.ErrVersion || !same(got, api.Version{}) {
			t.Errorf("%q: %v %v", s, got, e)
		}
	}
}

func TestP9_1TextBelow0(t *testing.T) {
	if s := ver.Text(api.Version{Major: -1, Minor: -1 << 62, Patch: 3, Pre: []string{"x"}}); s != "0.0.3-x" {
		t.Error(s)
	}
}

// rising: versions, each greater than the one ahead.
var rising = []string{
	"0.0.0-0", "0.0.0", "0.0.1", "0.1.0-a", "0.1.0", "0.2.0", "0.10.0", "1.0.0-0", "1.0.0-0.0", "1.0.0-0.a", "1.0.0-2", "1.0.0-10", "1.0.0-9999999999999998", "1.0.0-9999999999999999",
	"1.0.0--", "1.0.0--1", "1.0.0-0a", "1.0.0-A", "1.0.0-Z", "1.0.0-a", "1.0.0-a.2", "1.0.0-a.10", "1.0.0-a.10.b", "1.0.0-a.-", "1.0.0-a.a", "1.0.0-a-", "1.0.0-a0", "1.0.0-aa", "1.0.0-b", "1.0.0", "1.0.1-a", "1.0.1", "2.0.0-a", most + ".0.0",
}

func TestP9_2Cmp(t *testing.T) {
	for i, a := range rising {
		for j, b := range rising {
			want := 0
			if i < j {
				want = -1
			} else if i > j {
				want = 1
			}
			if got := ver.Cmp(v(t, a), v(t, b)); got != want {
				t.Errorf("Cmp(%s, %s): %d, not %d", a, b, got, want)
			}
		}
	}
	pre := func(s ...string) api.Version { return api.Version{Pre: s} }
	long := strings.Repeat("9", 40)
	if ver.Cmp(pre(long), pre("1"+long)) != -1 || ver.Cmp(pre("007"), pre("8")) != 1 || ver.Cmp(pre(""), pre("0")) != 1 || ver.Cmp(pre(""), pre("a")) != -1 {
		t.Error("marks of any length, and of none")
	}
}

func TestP9_3Next(t *testing.T) {
	for _, c := range []struct {
		s    string
		part int
		want string
	}{
		{"1.2.3-a", 0, "2.0.0"}, {"1.2.3-a", 1, "1.3.0"}, {"1.2.3-a", 2, "1.2.4"}, {"1.2.3", 3, "1.2.4"}, {"1.2.3", -1, "1.2.4"},
		{most + ".2.3-a", 0, most + ".2.3"}, {"1." + most + ".3", 1, "1." + most + ".3"}, {"1.2." + most + "-a", 2, "1.2." + most}, {most + ".2.3", 1, most + ".3.0"}, {"1." + most + "." + most, 0, "2.0.0"},
	} {
		got := ver.Next(v(t, c.s), c.part)
		if ver.Text(got) != c.want || len(got.Pre) != 0 {
			t.Errorf("Next(%s, %d): %s", c.s, c.part, ver.Text(got))
		}
	}
	if got := ver.Next(api.Version{Major: api.MaxPart + 5, Minor: 7, Patch: 8}, 0); !same(got, api.Version{Major: api.MaxPart + 5, Minor: 7, Patch: 8}) {
		t.Errorf("above MaxPart: %v", got)
	}
	if got := ver.Next(api.Version{Major: 1<<63 - 1, Minor: 1<<63 - 1, Patch: 1<<63 - 1}, 2); got.Patch != 1<<63-1 {
		t.Errorf("the greatest number: %v", got)
	}
}

func TestP9_4AnOrder(t *testing.T) {
	for _, a := range rising {
		x := v(t, a)
		if !same(v(t, ver.Text(x)), x) {
			t.Errorf("Parse(Text(%s))", a)
		}
		for _, b := range rising {
			if ver.Cmp(x, v(t, b)) != -ver.Cmp(v(t, b), x) {
				t.Errorf("%s and %s", a, b)
			}
		}
	}
}
