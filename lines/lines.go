// Package lines: texts that are read line by line.
package lines

import "strings"

// Of tells the lines of s, by LF. What stands behind the last LF, if it is empty, is none.
func Of(s string) []string {
	l := strings.Split(s, "\n")
	if l[len(l)-1] == "" {
		l = l[:len(l)-1]
	}
	return l
}
