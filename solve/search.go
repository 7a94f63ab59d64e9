package solve

import (
	"errors"

	"haversack/api"
	"haversack/fault"
)

// conflict: nothing fits at a name, and why.
type conflict struct {
	name   string
	reason error
}

func (c *conflict) Error() string { return "nothing fits at " + c.name + ": " + c.reason.Error() }
func (c *conflict) Unwrap() error { return c.reason }

// state: what may still be chosen.
type state struct {
	rows  set // that may be taken
	spare set // names that may be left out
}

// frame: a name at which a choice stands open.
type frame struct {
	state
	name int
	next int   // the choice that is tried next
	why  error // why the one ahead of it didn't fit
}

// hunt: a search in a puzzle, and how much it may cost yet.
type hunt struct {
	*puzzle
	budget int
}

// greatest tells the rows of the greatest solution: names are decided in order, each by its best choice that some solution has.
func (h *hunt) greatest() (set, error) {
	s, err := h.start()
	if err != nil {
		return set{}, err
	}
	found, err := h.find(s)
	for err == nil && h.open(s) < len(h.names) {
		s, found, err = h.decide(s, h.open(s), found)
	}
	return found, err
}

// decide tells what the best choice at name i leaves, and a solution that has it, where one is known that may be another.
func (h *hunt) decide(s state, i int, known set) (state, set, error) {
	f := frame{state: s, name: i}
	for {
		c, ok := h.choose(&f)
		if !ok {
			return state{}, set{}, &conflict{name: h.names[i], reason: f.why}
		}
		if f.why = h.settle(&c); f.why != nil {
			continue
		}
		if known.and(h.of[i]) == c.rows.and(h.of[i]) {
			return c, known, nil
		}
		found, err := h.find(c)
		var no *conflict
		if !errors.As(err, &no) {
			return c, found, err
		}
		f.why = no
	}
}

// find tells a solution of s, whichever: where the fewest choices are left it goes on.
func (h *hunt) find(s state) (set, error) {
	stack := []frame{{state: s, name: h.pick(s)}}
	for {
		top := &stack[len(stack)-1]
		if top.name == len(h.names) {
			return h.taken(top.state), nil
		}
		if h.budget -= 1 + len(h.name)/8; h.budget < 0 { // the more rows, the more work is a step
			return set{}, fault.Wrap("solve", h.names[top.name], api.ErrExhausted)
		}
		c, ok := h.choose(top)
		if !ok {
			err := &conflict{name: h.names[top.name], reason: top.why}
			stack = stack[:len(stack)-1]
			if len(stack) == 0 {
				return set{}, err
			}
			stack[len(stack)-1].why = err
			continue
		}
		if top.why = h.settle(&c); top.why == nil {
			stack = append(stack, frame{state: c, name: h.pick(c)})
		}
	}
}

// pick tells the name at which to go on (none: one behind the last, all that is left open may be left out).
func (h *hunt) pick(s state) int {
	lost := h.required(s).minus(h.reach(h.taken(s)))
	best, least := len(h.names), 0
	for i := range h.names {
		n := h.choices(s, i)
		if n < 2 || s.spare.has(i) && !h.leads(s, i, lost) {
			continue
		}
		// What must be there goes ahead of what may only be needed for it.
		if s.spare.has(i) {
			n += len(h.name) + 1
		}
		if best == len(h.names) || n < least {
			best, least = i, n
		}
	}
	return best
}

// leads tells whether a row of name i that may be taken needs one of names.
func (h *hunt) leads(s state, i int, names set) bool {
	for _, r := range h.order[i] {
		if s.rows.has(r) && !h.needed[r].and(names).none() {
			return true
		}
	}
	return false
}

// start tells what may be chosen where nothing is decided yet.
func (p *puzzle) start() (state, error) {
	s := state{spare: p.all}
	for i := range p.names {
		s.rows = s.rows.or(p.of[i])
	}
	for _, d := range p.roots {
		if d.name == nowhere {
			return state{}, &conflict{reason: fault.Wrap("need", "", api.ErrUnsat)}
		}
		s.require(p, d.name, d.fits)
	}
	return s, p.settle(&s)
}

// open tells the first name at which more than one choice is left (none: one behind the last).
func (p *puzzle) open(s state) int {
	for i := range p.names {
		if p.choices(s, i) > 1 {
			return i
		}
	}
	return len(p.names)
}

// choices tells how many choices are left at name i.
func (p *puzzle) choices(s state, i int) int {
	n := s.rows.and(p.of[i]).count()
	if s.spare.has(i) {
		n++
	}
	return n
}

// required tells the names that can't be left out.
func (p *puzzle) required(s state) set {
	return p.all.minus(s.spare)
}

// taken tells the rows that are left of names that can't be left out.
func (p *puzzle) taken(s state) set {
	var out set
	for i := range p.names {
		if !s.spare.has(i) {
			out = out.or(s.rows.and(p.of[i]))
		}
	}
	return out
}

// choose tells what the next choice at f's name leaves, and whether there is one: its rows, the greatest version first, then none of them.
func (p *puzzle) choose(f *frame) (state, bool) {
	s := f.state
	order := p.order[f.name]
	for ; f.next < len(order); f.next++ {
		if r := order[f.next]; s.rows.has(r) {
			f.next++
			var one set
			one.add(r)
			s.require(p, f.name, one)
			return s, true
		}
	}
	f.next++
	s.rows = s.rows.minus(p.of[f.name])
	return s, f.next == len(order)+1 && s.spare.has(f.name)
}

// require leaves of name i the rows that fit, one of which must be taken.
func (s *state) require(p *puzzle, i int, fits set) {
	s.rows = s.rows.minus(p.of[i].minus(fits))
	s.spare.drop(i)
}
