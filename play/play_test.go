package play_test

import (
	"slices"
	"testing"

	"haversack/api"
	"haversack/play"
	"haversack/sample"
	"haversack/state"
)

func begin(p, kind int, name, text string) api.Event {
	return api.Event{Kind: api.EventCmd, A: p, C: api.Cmd{Kind: kind, Name: name, Text: text}}
}

func step(p int) api.Event { return api.Event{Kind: api.EventStep, A: p} }
func run(p int) api.Event  { return api.Event{Kind: api.EventRun, A: p} }

func life(t *testing.T, sectors int) *play.Life {
	t.Helper()
	text, archives := sample.Index(sample.Life()...)
	x, line, e := play.New(sectors, 512, text, archives)
	if e != api.OK || line != 0 {
		t.Fatalf("%v at %d", e, line)
	}
	return x
}

func TestP30_1New(t *testing.T) {
	text, archives := sample.Index(sample.Life()...)
	if x, line, e := play.New(64, 512, "#\nx", archives); e != api.ErrIndex || line != 2 || x != nil {
		t.Errorf("a bad index: %v at %d", e, line)
	}
	if x, line, e := play.New(15, 512, "#\nx", archives); e != api.ErrIndex || line != 2 || x != nil {
		t.Errorf("a bad index comes first: %v at %d", e, line)
	}
	if x, line, e := play.New(15, 512, text, archives); e != api.ErrForm || line != 0 || x != nil {
		t.Errorf("too few sectors: %v at %d", e, line)
	}
	x := life(t, 64)
	if x.Disk().Sectors() != 64 || x.Disk().Size() != 512 || x.World().Disk != x.Disk() || len(x.World().Net().Rows()) != len(sample.Life()) {
		t.Error("another disk, or another world")
	}
	if x.Do(begin(0, api.CmdInit, "me", "1.0.0")) != (api.Told{}) || !x.World().Running(0) || x.Do(run(0)) != (api.Told{Over: true}) {
		t.Error("Do isn't the world's")
	}
	if archives[0][0]++; x.Do(begin(0, api.CmdAdd, "app", "1.0.0")) != (api.Told{}) || x.Do(run(0)) != (api.Told{Over: true}) {
		t.Error("what was handed in is kept")
	}
}

func TestP30_1Play(t *testing.T) {
	x := life(t, 256)
	l := []api.Event{begin(0, api.CmdInit, "me", "1.0.0"), run(0), begin(1, api.CmdAdd, "bad", "*"), step(1), run(1), run(1)}
	want := []api.Told{{}, {Over: true}, {}, {}, {Over: true, Err: api.ErrFailed}, {}}
	seq := play.Play(x, l...)
	l[1] = api.Event{}
	var got []api.Told
	for i, told := range seq {
		if i != len(got) {
			t.Errorf("number %d, not %d", i, len(got))
		}
		got = append(got, told)
	}
	if !slices.Equal(got, want) {
		t.Errorf("%v", got)
	}
	for range play.Play(x) {
		t.Error("of no events")
	}
	for i := range play.Play(x, begin(0, api.CmdAdd, "log", "1.0.0"), run(0), begin(0, api.CmdRemove, "log", ""), run(0)) {
		if i == 2 {
			break
		}
	}
	if !x.World().Running(0) || x.World().State().Lock == "lock 1\n" {
		t.Error("broken off, it goes on")
	}
	// Nothing happens until it is gone through.
	before := x.World().State()
	play.Play(x, run(0))
	if !state.Same(x.World().State(), before) || !x.World().Running(0) {
		t.Error("Play does something by itself")
	}
}

func TestP30_2TheSameLifeAgain(t *testing.T) {
	l := []api.Event{
		begin(0, api.CmdInit, "me", "1.0.0"), run(0), begin(0, api.CmdAdd, "app", "*"), {Kind: api.EventFault, A: api.FaultSpoil, N: 77}, step(0), step(0), step(0), begin(1, api.CmdVerify, "", ""), run(1), {Kind: api.EventCut, A: 40}, run(0),
		{Kind: api.EventCrash, A: 0x5555, N: 3 + 256*100}, begin(1, api.CmdInstall, "", ""), run(1), begin(1, api.CmdAdd, "app", "*"), run(1), begin(1, api.CmdVerify, "", ""), run(1),
	}
	tell := func() (out []api.Told, st api.State) {
		x := life(t, 512)
		for _, told := range play.Play(x, l...) {
			out = append(out, told)
		}
		return out, x.World().State()
	}
	first, st := tell()
	for range 5 {
		again, st2 := tell()
		if !slices.Equal(first, again) || !state.Same(st, st2) {
			t.Fatalf("%v, then %v", first, again)
		}
	}
	if first[len(first)-1] != (api.Told{Over: true}) || len(st.Tree) == 0 {
		t.Errorf("%v: a life that shows little", first)
	}
}
