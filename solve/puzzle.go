package solve

import (
	"math/bits"
	"slices"

	"haversack/api"
	"haversack/index"
	"haversack/span"
	"haversack/ver"
)

// set: of rows, or of names, by their numbers.
type set [(api.MaxRows + 63) / 64]uint64

func (s *set) add(i int)     { s[i/64] |= 1 << (i % 64) }
func (s *set) drop(i int)    { s[i/64] &^= 1 << (i % 64) }
func (s set) has(i int) bool { return s[i/64]>>(i%64)&1 == 1 }
func (s set) none() bool     { return s == set{} }

func (s set) and(t set) set {
	for i := range s {
		s[i] &= t[i]
	}
	return s
}

func (s set) or(t set) set {
	for i := range s {
		s[i] |= t[i]
	}
	return s
}

func (s set) minus(t set) set {
	for i := range s {
		s[i] &^= t[i]
	}
	return s
}

func (s set) count() int {
	n := 0
	for _, w := range s {
		n += bits.OnesCount64(w)
	}
	return n
}

// demand: a need: which name, and which rows of it will do.
type demand struct {
	name int
	fits set
}

// puzzle: rows and needs, by numbers.
type puzzle struct {
	names   []string   // in order
	all     set        // names
	order   [][]int    // by name: its rows, the greatest version first
	of      []set      // by name: its rows
	name    []int      // by row: its name
	demands [][]demand // by row
	needed  []set      // by row: the names that it needs
	roots   []demand
}

func newPuzzle(rows []api.Row, needs []api.Need) *puzzle {
	p := &puzzle{names: index.Names(rows)}
	p.order = make([][]int, len(p.names))
	p.of = make([]set, len(p.names))
	for i := range p.names {
		p.all.add(i)
	}
	for i, r := range rows {
		n, _ := slices.BinarySearch(p.names, r.Name)
		p.name = append(p.name, n)
		p.order[n] = append(p.order[n], i)
		p.of[n].add(i)
	}
	for _, l := range p.order {
		slices.SortStableFunc(l, func(a, b int) int { return ver.Cmp(rows[b].V, rows[a].V) })
	}
	for _, r := range rows {
		l := p.demandsOf(rows, r.Needs)
		p.demands = append(p.demands, l)
		p.needed = append(p.needed, namesOf(l))
	}
	p.roots = p.demandsOf(rows, needs)
	return p
}

// demandsOf tells needs by numbers; the need of a name that no row has is one that nothing meets.
func (p *puzzle) demandsOf(rows []api.Row, needs []api.Need) []demand {
	var out []demand
	for _, n := range needs {
		i, ok := slices.BinarySearch(p.names, n.Name)
		if !ok {
			out = append(out, demand{name: nowhere})
			continue
		}
		d := demand{name: i}
		for _, r := range p.order[i] {
			if span.Has(n.Span, rows[r].V) {
				d.fits.add(r)
			}
		}
		out = append(out, d)
	}
	return out
}

func namesOf(l []demand) set {
	var out set
	for _, d := range l {
		if d.name != nowhere {
			out.add(d.name)
		}
	}
	return out
}

// nowhere: the number of a name that no row has.
const nowhere = -1
