package lines_test

import (
	"slices"
	"testing"

	"haversack/lines"
)

func TestOf(t *testing.T) {
	for s, want := range map[string][]string{
		"": nil, "\n": {""}, "a": {"a"}, "a\n": {"a"}, "a\nb": {"a", "b"}, "a\n\n": {"a", ""}, "\na": {"", "a"}, "a\r\n": {"a\r"},
	} {
		if got := lines.Of(s); !slices.Equal(got, want) {
			t.Errorf("%q: %q", s, got)
		}
	}
}
