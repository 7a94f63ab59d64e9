package fault_test

import (
	"errors"
	"slices"
	"strings"
	"testing"

	"haversack/api"
	"haversack/fault"
)

// foreign: an error of somebody else's.
type foreign struct{ s []string }

func (f foreign) Error() string { return "foreign" }

// endless: an error that is unwrapped for ever.
type endless int

func (e endless) Error() string { return "endless" }
func (e endless) Unwrap() error { return e + 1 }

// bad: an error whose methods panic.
type bad struct{}

func (bad) Error() string   { panic("bad") }
func (bad) Unwrap() []error { panic("bad") }

func TestP6_1Wrap(t *testing.T) {
	if fault.Wrap("a", "b", nil) != nil || fault.Wrap("a", "b", api.OK) != nil {
		t.Error("of nothing")
	}
	e := fault.Wrap("get", "a", api.ErrNone)
	f, is := e.(*fault.Fault)
	if !is || f.Op != "get" || f.Name != "a" || f.Err != api.ErrNone || f.Unwrap() != api.ErrNone {
		t.Fatalf("%#v", e)
	}
	if e.Error() != "get a: err 52" {
		t.Error(e.Error())
	}
	if g := fault.Wrap("", "", e); g.Error() != " : get a: err 52" || errors.Unwrap(g) != e {
		t.Error(g.Error())
	}
	if h := (&fault.Fault{Op: "x", Name: "y"}); h.Error() != "x y: nothing" || h.Unwrap() != nil {
		t.Error(h.Error())
	}
	if h := (&fault.Fault{Op: "x", Name: "y", Err: api.OK}); h.Error() != "x y: err 0" {
		t.Error(h.Error())
	}
}

func TestP6_1Join(t *testing.T) {
	if fault.Join() != nil || fault.Join(nil, api.OK, nil) != nil {
		t.Error("of nothing")
	}
	a := fault.Wrap("a", "1", api.ErrNone)
	if fault.Join(nil, a, api.OK) != a {
		t.Error("of one")
	}
	errs := []error{a, nil, api.ErrKind, api.OK, a}
	j := fault.Join(errs...)
	errs[0] = nil
	if j.Error() != "a 1: err 52\nerr 54\na 1: err 52" {
		t.Errorf("%q", j.Error())
	}
	l, is := j.(interface{ Unwrap() []error })
	if !is || !slices.Equal(l.Unwrap(), []error{a, api.ErrKind, a}) {
		t.Fatal("Unwrap")
	}
	l.Unwrap()[0] = nil
	if l.Unwrap()[0] != a {
		t.Error("what Unwrap answers is kept")
	}
	two := fault.Join(j, fault.Wrap("b", "2", j))
	if two.Error() != j.Error()+"\nb 2: "+j.Error() {
		t.Errorf("%q", two.Error())
	}
}

func TestP6_1Text(t *testing.T) {
	a := fault.Wrap("a", "1", api.ErrNone)
	for _, e := range []error{api.OK, api.ErrKind, a, fault.Join(a, a, api.ErrFull), fault.Wrap("x", "y", fault.Join(a, api.ErrKind)), foreign{}, fault.Wrap("f", "g", foreign{})} {
		if fault.Text(e) != e.Error() {
			t.Errorf("%q, not %q", fault.Text(e), e.Error())
		}
	}
	if fault.Text(nil) != "" {
		t.Error("of nil")
	}
}

func TestP6_2Code(t *testing.T) {
	none := fault.Wrap("n", "", foreign{})
	deep := fault.Wrap("a", "", fault.Join(none, fault.Wrap("b", "", fault.Join(fault.Wrap("c", "", api.ErrKind), api.ErrFull)), api.ErrNone))
	for _, c := range []struct {
		e    error
		code api.Errno
		ops  []string
	}{
		{nil, api.OK, nil}, {api.OK, api.OK, nil}, {api.ErrKind, api.ErrKind, nil}, {none, api.OK, nil}, {foreign{}, api.OK, nil},
		{fault.Wrap("a", "", fault.Wrap("a", "", api.ErrFull)), api.ErrFull, []string{"a", "a"}},
		{fault.Join(api.ErrNone, fault.Wrap("x", "", api.ErrKind)), api.ErrNone, nil},
		{fault.Join(fault.Wrap("x", "", api.ErrKind), api.ErrNone), api.ErrKind, []string{"x"}},
		{deep, api.ErrKind, []string{"a", "b", "c"}},
	} {
		if got := fault.Code(c.e); got != c.code {
			t.Errorf("Code(%v): %v, not %v", c.e, got, c.code)
		}
		if got := fault.Ops(c.e); !slices.Equal(got, c.ops) {
			t.Errorf("Ops(%v): %q, not %q", c.e, got, c.ops)
		}
	}
}

func TestP6_2Is(t *testing.T) {
	e := fault.Wrap("a", "", fault.Join(foreign{}, fault.Wrap("b", "", api.ErrKind), api.ErrFull))
	for code := api.Errno(-1); code < 90; code++ {
		want := code == api.ErrKind || code == api.ErrFull
		if fault.Is(e, code) != want || errors.Is(e, code) != want {
			t.Errorf("%v", code)
		}
	}
	if !fault.Is(nil, api.OK) || !fault.Is(api.OK, api.OK) || fault.Is(e, api.OK) || fault.Is(nil, api.ErrKind) || fault.Is(api.OK, api.ErrKind) || !fault.Is(api.ErrKind, api.ErrKind) {
		t.Error("of nothing")
	}
	var f *fault.Fault
	if !errors.As(e, &f) || f != e {
		t.Error("errors.As finds no Fault")
	}
	if !errors.As(fault.Join(api.ErrFull, e), &f) || f != e {
		t.Error("errors.As finds no Fault in a list")
	}
}

func TestP6_3HoweverOftenWrapped(t *testing.T) {
	e := error(api.ErrDrift)
	for range 4096 {
		e = fault.Wrap("op", "n", e)
	}
	if fault.Code(e) != api.ErrDrift || !fault.Is(e, api.ErrDrift) || len(fault.Ops(e)) != 4096 || e.Error() != strings.Repeat("op n: ", 4096)+"err 83" {
		t.Error("wrapped")
	}
	e = fault.Wrap("op", "n", api.ErrDrift)
	for range 16 {
		e = fault.Join(e, e)
	}
	if fault.Code(e) != api.ErrDrift || !fault.Is(e, api.ErrDrift) || fault.Is(e, api.ErrFull) || len(fault.Ops(e)) != 1 || strings.Count(e.Error(), "\n") != 1<<16-1 {
		t.Error("joined")
	}
}

func TestP6CallsEnd(t *testing.T) {
	f := &fault.Fault{Op: "a"}
	f.Err = f
	g := &fault.Fault{Op: "a"}
	g.Err = fault.Join(g, g, api.ErrNone)
	for _, e := range []error{f, g, endless(0), bad{}, fault.Wrap("a", "b", bad{}), fault.Join(bad{}, bad{}), (*fault.Fault)(nil), fault.Wrap("a", "b", (*fault.Fault)(nil))} {
		fault.Text(e)
		fault.Code(e)
		fault.Ops(e)
		fault.Is(e, api.ErrKind)
		fault.Join(e, e)
	}
	_ = f.Error() + g.Error()
}
