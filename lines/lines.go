// Package lines: texts that are read line by line.
package lines

import "strings"

// Of tells the lines of s, by LF. What stands behind the last LF, if it is empty, is none.
func Of(s string) []string {
	l := strings.Split(s, "\n")
	if l[len(l)-1] == "" {
		l = l[:len(l)-1]
	}
	return l
}

const maxDigits = 9

// Number tells the number that 1 to 9 decimal digits are, noughts ahead, too, and whether s is such.
func Number(s string) (int, bool) {
	if s == "" || len(s) > maxDigits {
		return 0, false
	}
	n := 0
	for _, c := range []byte(s) {
		if c < '0' || c > '9' {
			return 0, false
		}
		n = 10*n + int(c-'0')
	}
	return n, true
}
