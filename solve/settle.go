package solve

import (
	"haversack/api"
	"haversack/fault"
)

// settle takes out of s what can't be chosen any more, again and again until nothing is left to take out.
func (p *puzzle) settle(s *state) error {
	for {
		before := *s
		p.dropUnmet(s)
		p.pass(s)
		p.claim(s)
		p.dropUnreached(s)
		for i, n := range p.names {
			if !s.spare.has(i) && s.rows.and(p.of[i]).none() {
				return &conflict{name: n, reason: fault.Wrap("need", n, api.ErrUnsat)}
			}
		}
		if *s == before {
			return nil
		}
	}
}

// dropUnmet takes out rows that need what can't be taken.
func (p *puzzle) dropUnmet(s *state) {
	for r, l := range p.demands {
		if !s.rows.has(r) {
			continue
		}
		for _, d := range l {
			if d.fits.and(s.rows).none() {
				s.rows.drop(r)
				break
			}
		}
	}
}

// pass hands on what all rows need that a name which can't be left out has.
func (p *puzzle) pass(s *state) {
	for i := range p.names {
		rows := s.rows.and(p.of[i])
		if s.spare.has(i) || rows.none() {
			continue
		}
		common, left := p.common(p.order[i], rows)
		for _, d := range common {
			if left[d.name] == 0 {
				s.require(p, d.name, d.fits)
			}
		}
	}
}

// common tells, of each name that a row of rows needs, what any of them will do with; and how many of the rows don't need it.
func (p *puzzle) common(order []int, rows set) ([]demand, map[int]int) {
	left := map[int]int{}
	fits := map[int]set{}
	var names []int
	for _, r := range order {
		if !rows.has(r) {
			continue
		}
		for _, d := range p.demands[r] {
			if _, ok := left[d.name]; !ok {
				left[d.name] = rows.count()
				names = append(names, d.name)
			}
			left[d.name]--
			fits[d.name] = fits[d.name].or(d.fits)
		}
	}
	var out []demand
	for _, n := range names {
		out = append(out, demand{name: n, fits: fits[n]})
	}
	return out, left
}

// dropUnreached takes out rows whose names nothing that may be taken leads to.
func (p *puzzle) dropUnreached(s *state) {
	seen := p.reach(s.rows)
	for i := range p.names {
		if !seen.has(i) {
			s.rows = s.rows.minus(p.of[i])
		}
	}
}

// reach tells the names that the project needs, or a row of rows of a name that is reached.
func (p *puzzle) reach(rows set) set {
	var seen set
	var todo []int
	visit := func(l []demand) {
		for _, d := range l {
			if !d.fits.and(rows).none() && !seen.has(d.name) {
				seen.add(d.name)
				todo = append(todo, d.name)
			}
		}
	}
	visit(p.roots)
	for len(todo) > 0 {
		i := todo[len(todo)-1]
		todo = todo[:len(todo)-1]
		for _, r := range p.order[i] {
			if rows.has(r) {
				visit(p.demands[r])
			}
		}
	}
	return seen
}

// claim hands back that a name which can't be left out is needed: where the rows of one name alone need it, one of these must be taken.
func (p *puzzle) claim(s *state) {
	rooted := namesOf(p.roots)
	for i := range p.names {
		if s.spare.has(i) || rooted.has(i) {
			continue
		}
		users := p.users(s, i)
		if user, alone := p.onlyName(users); alone {
			s.require(p, user, users)
		}
	}
}

// users tells the rows that may be taken and need name i.
func (p *puzzle) users(s *state, i int) set {
	var out set
	for r, l := range p.needed {
		if s.rows.has(r) && l.has(i) {
			out.add(r)
		}
	}
	return out
}

// onlyName tells the name of rows, and whether all have it.
func (p *puzzle) onlyName(rows set) (int, bool) {
	for i, of := range p.of {
		if !rows.and(of).none() {
			return i, rows.minus(of).none()
		}
	}
	return nowhere, false
}
