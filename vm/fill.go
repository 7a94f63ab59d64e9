package vm

import (
	"strings"

	"haversack/api"
)

// tooLong: a text beyond this length is refused wherever it goes, so what stands behind need not be known.
const tooLong = api.MaxFile + 1

// fill tells s with what vars has in the place of names behind a $; no more of it than tells that it is too long.
func (m *machine) fill(s string) string {
	var b strings.Builder
	for s != "" && b.Len() < tooLong {
		i := strings.IndexByte(s, '$')
		if i < 0 {
			i = len(s)
		}
		b.WriteString(s[:i])
		s = s[i:]
		if s == "" {
			break
		}
		n := nameLen(s[1:])
		switch {
		case n > 0:
			b.WriteString(m.vars[s[1:1+n]])
		case strings.HasPrefix(s, "$$"):
			n = 1
			fallthrough
		default:
			b.WriteByte('$')
		}
		s = s[1+n:]
	}
	return b.String()
}

// nameLen tells how long the name is that s begins with: a small letter, then small letters and digits (none: 0).
func nameLen(s string) int {
	for i := range len(s) {
		small := s[i] >= 'a' && s[i] <= 'z'
		digit := s[i] >= '0' && s[i] <= '9'
		if !small && (!digit || i == 0) {
			return i
		}
	}
	return len(s)
}
