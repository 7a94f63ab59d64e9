// Package fresh: the same again in new memory, so that nothing that is answered or kept shares any with what was handed in.
package fresh

import (
	"slices"

	"haversack/api"
)

// Version tells v in new memory.
func Version(v api.Version) api.Version {
	v.Pre = slices.Clone(v.Pre)
	return v
}

// Span tells s in new memory.
func Span(s api.Span) api.Span {
	s.Or = list(s.Or, func(l []api.Bound) []api.Bound { return list(l, bound) })
	return s
}

// Need tells n in new memory.
func Need(n api.Need) api.Need {
	n.Span = Span(n.Span)
	return n
}

// Needs tells l in new memory.
func Needs(l []api.Need) []api.Need { return list(l, Need) }

// Pin tells p in new memory.
func Pin(p api.Pin) api.Pin {
	p.V = Version(p.V)
	return p
}

// Pins tells l in new memory.
func Pins(l []api.Pin) []api.Pin { return list(l, Pin) }

// Row tells r in new memory.
func Row(r api.Row) api.Row {
	r.V = Version(r.V)
	r.Needs = Needs(r.Needs)
	return r
}

// Rows tells l in new memory.
func Rows(l []api.Row) []api.Row { return list(l, Row) }

// File tells f in new memory.
func File(f api.File) api.File {
	f.B = slices.Clone(f.B)
	return f
}

// Files tells l in new memory.
func Files(l []api.File) []api.File { return list(l, File) }

func bound(b api.Bound) api.Bound {
	b.V = Version(b.V)
	return b
}

// list tells each of l as one tells it.
func list[T any](l []T, one func(T) T) []T {
	if l == nil {
		return nil
	}
	out := make([]T, 0, len(l))
	for _, x := range l {
		out = append(out, one(x))
	}
	return out
}
