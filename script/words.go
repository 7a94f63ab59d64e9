package script

import "strings"

const (
	blanks = " \t"
	quote  = `"`
)

// Words tells the words of a line, quoted ones with a quote ahead, and whether they are such as words must be.
func Words(s string) ([]string, bool) {
	var out []string
	for {
		s = strings.TrimLeft(s, blanks)
		if s == "" {
			return out, true
		}
		n := strings.IndexAny(s, blanks)
		if n < 0 {
			n = len(s)
		}
		word := s[:n]
		if strings.HasPrefix(s, quote) {
			text, length, ok := unquoted(s)
			if !ok {
				return nil, false
			}
			word, n = quote+text, length
		}
		out = append(out, word)
		s = s[n:]
	}
}

// unquoted tells the text that s, which begins with a quote, quotes, how long that is in s, and whether it is a word.
func unquoted(s string) (string, int, bool) {
	var b strings.Builder
	for i := 1; i < len(s); i++ {
		switch c := s[i]; c {
		case '"':
			rest := s[i+1:]
			return b.String(), i + 1, rest == "" || strings.IndexByte(blanks, rest[0]) >= 0
		case '\\':
			i++
			if i == len(s) {
				return "", 0, false
			}
			e, ok := escaped(s[i])
			if !ok {
				return "", 0, false
			}
			b.WriteByte(e)
		default:
			b.WriteByte(c)
		}
	}
	return "", 0, false
}

// escaped tells the byte that stands for c behind a backslash, and whether there is one.
func escaped(c byte) (byte, bool) {
	switch c {
	case '"', '\\':
		return c, true
	case 'n':
		return '\n', true
	}
	return 0, false
}

// quoted tells a text such that unquoted tells it again.
func quoted(s string) string {
	var b strings.Builder
	b.WriteString(quote)
	for i := range len(s) {
		switch c := s[i]; c {
		case '"', '\\':
			b.WriteByte('\\')
			fallthrough
		default:
			b.WriteByte(c)
		case '\n':
			b.WriteString(`\n`)
		}
	}
	b.WriteString(quote)
	return b.String()
}
