package lines_test

import (
	"slices"
	"testing"

	"haversack/lines"
)

func TestOf(t *testing.T) {
	for s, want := range map[string][]string{
		"": nil, "\n": {""}, "a": {"a"}, "a\n": {"a"}, "a\nb": {"a", "b"}, "a\n\n": {"a", ""}, "\na": {"", "a"}, "a\r\n": {"a\r"},
	} {
		if got := lines.Of(s); !slices.Equal(got, want) {
			t.Errorf("%q: %q", s, got)
		}
	}
}

func TestNumber(t *testing.T) {
	for s, want := range map[string]int{"0": 0, "7": 7, "000000000": 0, "000000012": 12, "999999999": 999999999, "10": 10} {
		if got, ok := lines.Number(s); !ok || got != want {
			t.Errorf("%q: %d %v", s, got, ok)
		}
	}
	for _, s := range []string{"", "0000000000", "-1", "+1", " 1", "1 ", "1x", "x", "1.0", "/", ":"} {
		if got, ok := lines.Number(s); ok || got != 0 {
			t.Errorf("%q: %d", s, got)
		}
	}
}
