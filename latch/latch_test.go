package latch_test

import (
	"strings"
	"testing"

	"haversack/api"
	"haversack/disk"
	"haversack/latch"
	"haversack/store"
)

func made(t *testing.T) (*store.Store, *disk.Disk) {
	t.Helper()
	d := disk.New(32, 128)
	return reopened(t, d), d
}

func reopened(t *testing.T, d *disk.Disk) *store.Store {
	t.Helper()
	d.Crash(0, -1, 0)
	s, e := store.Open(d)
	if e != api.OK {
		t.Fatal(e)
	}
	return s
}

func open(t *testing.T, s *store.Store) *latch.Latch {
	t.Helper()
	l, e := latch.Open(s)
	if e != api.OK {
		t.Fatal(e)
	}
	return l
}

func try(t *testing.T, what string, l *latch.Latch, owner int, want bool) {
	t.Helper()
	if got, e := l.Try(owner); got != want || e != api.OK {
		t.Errorf("%s: %v %v", what, got, e)
	}
}

func holder(t *testing.T, what string, l *latch.Latch, owner, epoch int, want bool) {
	t.Helper()
	if o, e, got := l.Holder(); o != owner || e != epoch || got != want {
		t.Errorf("%s: holder %d of %d, %v", what, o, e, got)
	}
}

func TestP25_1Epoch(t *testing.T) {
	s, d := made(t)
	for want := 1; want < 6; want++ {
		l := open(t, s)
		if l.Epoch() != want {
			t.Errorf("epoch %d, not %d", l.Epoch(), want)
		}
		holder(t, "a new one", l, 0, 0, false)
		if want%2 == 0 {
			s = reopened(t, d)
		}
	}
	d.Cut(0)
	if l, e := latch.Open(s); e != api.ErrDiskDead || l != nil {
		t.Errorf("%v", e)
	}
	if l := open(t, reopened(t, d)); l.Epoch() != 6 {
		t.Errorf("an Open that didn't go well counts: %d", l.Epoch())
	}
	for _, k := range s.Keys("") {
		if !strings.HasPrefix(k, "x/") {
			t.Errorf("key %q can't be of a batch of state's", k)
		}
	}
}

func TestP25_1TryLeaveHolder(t *testing.T) {
	s, d := made(t)
	l := open(t, s)
	try(t, "nobody", l, 7, true)
	holder(t, "7", l, 7, 1, true)
	try(t, "held", l, 1, false)
	try(t, "held by itself", l, 7, false)
	l.Leave(1)
	try(t, "another left", l, 1, false)
	l.Leave(7)
	holder(t, "what is noted stays", l, 7, 1, true)
	try(t, "left", l, -3, true)
	holder(t, "-3", l, -3, 1, true)
	l.Leave(7)
	try(t, "one who left leaves again", l, 7, false)
	holder(t, "in the store", open(t, reopened(t, d)), -3, 1, true)
}

func TestP25_1Pair(t *testing.T) {
	s, _ := made(t)
	l := open(t, s)
	try(t, "nobody", l, 0, true)
	if p := l.Pair(); !p.Gone || !strings.HasPrefix(p.Key, "x/") {
		t.Errorf("%v", p)
	}
	if e := s.Apply(l.Pair(), store.Pair{Key: "x/else", Value: "1"}); e != api.OK {
		t.Fatal(e)
	}
	holder(t, "taken away", l, 0, 0, false)
	try(t, "taken away", l, 1, true)
	l.Leave(0)
	try(t, "the one ahead leaves", l, 0, false)
	holder(t, "1", l, 1, 1, true)
}

func TestP25_1AnotherEpoch(t *testing.T) {
	s, d := made(t)
	a := open(t, s)
	try(t, "nobody", a, 0, true)
	s = reopened(t, d)
	b := open(t, s)
	holder(t, "noted of an epoch that is over", b, 0, 1, true)
	b.Leave(0)
	try(t, "who fell with the power", b, 1, true)
	holder(t, "1", b, 1, 2, true)
	try(t, "held", b, 0, false)
	// Two latches of one store: the later one takes over.
	c := open(t, s)
	try(t, "of an earlier latch", c, 0, true)
	holder(t, "seen by the earlier one", b, 0, 3, true)
	try(t, "of a later latch", b, 5, true)
	holder(t, "5", c, 5, 2, true)
	try(t, "taken over", c, 6, true)
}

func TestP25_1Errors(t *testing.T) {
	s, d := made(t)
	l := open(t, s)
	try(t, "nobody", l, 0, true)
	d.Cut(0)
	if ok, e := l.Try(1); ok || e != api.OK {
		t.Errorf("held comes first: %v %v", ok, e)
	}
	l.Leave(0)
	if ok, e := l.Try(1); ok || e != api.ErrDiskDead {
		t.Errorf("%v %v", ok, e)
	}
	holder(t, "as it was", l, 0, 1, true)
	if ok, e := l.Try(0); ok || e != api.ErrDiskDead {
		t.Errorf("%v %v", ok, e)
	}
}

func TestP25_2TwoNeverHoldIt(t *testing.T) {
	for n := range 12 {
		s, d := made(t)
		l := open(t, s)
		d.Cut(n)
		first, _ := l.Try(0)
		second, _ := l.Try(1)
		if first && second {
			t.Fatal("two hold it")
		}
		l = open(t, reopened(t, d))
		try(t, "behind a crash", l, 1, true)
		try(t, "and then", l, 0, false)
	}
}
