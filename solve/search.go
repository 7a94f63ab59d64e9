package solve

import (
	"errors"

	"haversack/api"
	"haversack/fault"
)

// conflict: nothing fits at a name, and why.
type conflict struct {
	name   string
	reason error
}

func (c *conflict) Error() string { return "nothing fits at " + c.name + ": " + c.reason.Error() }
func (c *conflict) Unwrap() error { return c.reason }

// state: what may still be chosen.
type state struct {
	rows  set // that may be taken
	spare set // names that may be left out
}

// frame: a name at which a choice stands open.
type frame struct {
	state
	name int
	next int   // the choice that is tried next
	why  error // why the one ahead of it didn't fit
}

// search tells the rows of the greatest solution: names are decided in order, each from its best choice on, so the first one that is found is it.
func (p *puzzle) search(budget int) (set, error) {
	s, err := p.start()
	if err != nil {
		return set{}, err
	}
	stack := []frame{{state: s, name: p.open(s)}}
	cost := 1 + len(p.name)/16 // the more rows, the more work is a step
	for {
		top := &stack[len(stack)-1]
		if top.name == len(p.names) {
			return top.rows, nil
		}
		if budget -= cost; budget < 0 {
			return set{}, fault.Wrap("solve", p.names[top.name], api.ErrExhausted)
		}
		s, ok := p.choose(top)
		if !ok {
			err := &conflict{name: p.names[top.name], reason: top.why}
			stack = stack[:len(stack)-1]
			if len(stack) == 0 {
				return set{}, err
			}
			stack[len(stack)-1].why = err
			continue
		}
		err := p.settle(&s)
		var c *conflict
		if errors.As(err, &c) {
			top.why = c
			continue
		}
		stack = append(stack, frame{state: s, name: p.open(s)})
	}
}

// start tells what may be chosen where nothing is decided yet.
func (p *puzzle) start() (state, error) {
	var s state
	for i := range p.names {
		s.rows = s.rows.or(p.of[i])
		s.spare.add(i)
	}
	for _, d := range p.roots {
		if d.name == nowhere {
			return state{}, &conflict{reason: fault.Wrap("need", "", api.ErrUnsat)}
		}
		s.require(p, d.name, d.fits)
	}
	return s, p.settle(&s)
}

// open tells the first name at which more than one choice is left (none: one behind the last).
func (p *puzzle) open(s state) int {
	for i := range p.names {
		n := s.rows.and(p.of[i]).count()
		if n > 1 || n == 1 && s.spare.has(i) {
			return i
		}
	}
	return len(p.names)
}

// choose tells what the next choice at f's name leaves, and whether there is one: its rows, the greatest version first, then none of them.
func (p *puzzle) choose(f *frame) (state, bool) {
	s := f.state
	order := p.order[f.name]
	for ; f.next < len(order); f.next++ {
		if r := order[f.next]; s.rows.has(r) {
			f.next++
			var one set
			one.add(r)
			s.require(p, f.name, one)
			return s, true
		}
	}
	f.next++
	s.rows = s.rows.minus(p.of[f.name])
	return s, f.next == len(order)+1 && s.spare.has(f.name)
}

// require leaves of name i the rows that fit, one of which must be taken.
func (s *state) require(p *puzzle, i int, fits set) {
	s.rows = s.rows.minus(p.of[i].minus(fits))
	s.spare.drop(i)
}
