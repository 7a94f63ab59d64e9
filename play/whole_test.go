package play_test

import (
	"fmt"
	"math/rand"
	"slices"
	"testing"

	"haversack/api"
	"haversack/archive"
	"haversack/audit"
	"haversack/cmd"
	"haversack/fault"
	"haversack/index"
	"haversack/lockfile"
	"haversack/manifest"
	"haversack/play"
	"haversack/sample"
	"haversack/solve"
	"haversack/stage"
	"haversack/state"
)

// registry: the rows and archives of every life here.
func registry() cmd.Env {
	rows, archives := sample.Registry(sample.Life()...)
	return cmd.Env{Rows: rows, Archives: archives}
}

// someCmd: a command; some go well, some fail.
func someCmd(rnd *rand.Rand) api.Cmd {
	names := []string{"app", "lib", "log", "bad", "odd", "zip", "me", ""}
	spans := []string{"*", "^1.0.0", "2.0.0", "<2.0.0", ">=1.1.0-a", "x", "1.0.0"}
	if rnd.Intn(3) > 0 {
		return api.Cmd{Kind: 1 + rnd.Intn(6), Name: names[rnd.Intn(3)], Text: spans[rnd.Intn(4)]}
	}
	return api.Cmd{Kind: rnd.Intn(8), Name: names[rnd.Intn(len(names))], Text: spans[rnd.Intn(len(spans))]}
}

// bare: a state without its cache.
func bare(st api.State) api.State {
	st.Cache = nil
	return st
}

// at: what cmd.Do makes of a state, whose archives are at hand.
func at(st api.State, e cmd.Env, c api.Cmd) (api.State, error) {
	w := cmd.World{S: st, Bytes: map[api.Key][]byte{}}
	for _, k := range st.Cache {
		i := slices.IndexFunc(registry().Rows, func(r api.Row) bool { return r.Sum == k })
		w.Bytes[k] = registry().Archives[i]
	}
	w, err := cmd.Do(w, e, c)
	return w.S, err
}

// sound: whether a state holds together and is of archives that the registry had.
func sound(t *testing.T, st api.State) {
	t.Helper()
	if !state.Held(st) || audit.Check(st, registry().Rows) != nil {
		t.Fatalf("%v: %v", st, audit.Check(st, registry().Rows))
	}
	for _, k := range st.Cache {
		if !slices.ContainsFunc(registry().Archives, func(b []byte) bool { return archive.Digest(b) == k }) {
			t.Fatal("something else is cached")
		}
	}
	pins, _, _ := lockfile.Parse(st.Lock)
	files, err := stage.All(pins, func(k api.Key) ([]byte, bool) {
		i := slices.IndexFunc(registry().Rows, func(r api.Row) bool { return r.Sum == k })
		return registry().Archives[max(i, 0)], i >= 0
	})
	if err != nil || !state.Same(api.State{Tree: files}, api.State{Tree: st.Tree}) {
		t.Fatalf("P40.7: what is installed isn't what the lockfile says: %v", err)
	}
}

func TestP40_1CrashesP40_7Whole(t *testing.T) {
	rnd := rand.New(rand.NewSource(1))
	kept, lost := 0, 0
	for range 150 {
		x := life(t, 512)
		for _, e := range []api.Event{begin(0, api.CmdInit, "me", "1.0.0"), run(0)} {
			x.Do(e)
		}
		for range 12 {
			sure := x.World().State()
			c := someCmd(rnd)
			then, _ := at(sure, registry(), c)
			if rnd.Intn(2) == 0 {
				x.Do(api.Event{Kind: api.EventCut, A: rnd.Intn(90)})
			}
			x.Do(api.Event{Kind: api.EventCmd, C: c})
			told := api.Told{}
			for range rnd.Intn(80) {
				if told = x.Do(step(0)); told.Over {
					break
				}
			}
			x.Do(api.Event{Kind: api.EventCrash, A: int(rnd.Uint64()), N: rnd.Intn(1 << 17)})
			now := x.World().State()
			sound(t, now)
			switch {
			case told.Over && told.Err == api.OK && !state.Same(bare(now), bare(then)):
				t.Fatalf("%v told success, and isn't there: %v, not %v", c, now, then)
			case state.Same(bare(now), bare(sure)):
				lost++
			case state.Same(bare(now), bare(then)) && (!told.Over || told.Err == api.OK || told.Err == api.ErrDown):
				kept++
			default:
				t.Fatalf("%v: %v, neither %v nor %v", c, now, sure, then)
			}
		}
	}
	if kept < 50 || lost < 50 {
		t.Errorf("%d kept, %d lost: these lives show little", kept, lost)
	}
}

// doing: a command that a process does.
type doing struct {
	c     api.Cmd
	rows  []api.Row
	steps int
}

func TestP40_2OrderP40_3BusyP40_4Greatest(t *testing.T) {
	rnd := rand.New(rand.NewSource(2))
	busy := 0
	for range 120 {
		x := life(t, 2048)
		x.Do(begin(0, api.CmdInit, "me", "1.0.0"))
		x.Do(run(0))
		model := x.World().State()
		var procs [2]*doing
		holder := -1
		for range 300 {
			p := rnd.Intn(2)
			if rnd.Intn(30) == 0 {
				some := sample.Life()
				text, _ := sample.Index(some[:len(some)-rnd.Intn(3)]...)
				x.Do(api.Event{Kind: api.EventIndex, T: text})
			}
			if procs[p] == nil {
				procs[p] = &doing{c: someCmd(rnd)}
				x.Do(api.Event{Kind: api.EventCmd, A: p, C: procs[p].c})
				continue
			}
			d := procs[p]
			d.steps++
			if d.steps == 2 {
				d.rows = x.World().Net().Rows()
			}
			before := x.World().State()
			told := x.Do(step(p))
			if !told.Over {
				holder = p
				continue
			}
			procs[p] = nil
			if told.Err == api.ErrBusy {
				busy++
				if holder != 1-p || d.steps != 1 || !state.Same(before, x.World().State()) {
					t.Fatal("P40.3: busy, and nobody holds it, or something has changed")
				}
				continue
			}
			if holder == 1-p {
				t.Fatal("P40.3: the lock is held, and another goes on")
			}
			holder = -1
			// The commands that are over stand in the order of their ends: each works on what the one ahead of it left.
			next, err := at(model, cmd.Env{Rows: d.rows, Archives: registry().Archives}, d.c)
			if fault.Code(err) != told.Err {
				t.Fatalf("P40.2: %v: %v, not %v", d.c, told.Err, err)
			}
			model = next
			if !state.Same(bare(x.World().State()), bare(model)) {
				t.Fatalf("P40.2: %v: %v, not %v", d.c, x.World().State(), model)
			}
			greatest(t, d, told, x.World().State())
		}
	}
	if busy < 50 {
		t.Errorf("%d times busy: these lives show little", busy)
	}
}

// greatest: whether what a command locked is the greatest of the rows of then.
func greatest(t *testing.T, d *doing, told api.Told, st api.State) {
	t.Helper()
	if told.Err != api.OK || d.c.Kind != api.CmdAdd && d.c.Kind != api.CmdRemove && d.c.Kind != api.CmdUpdate {
		return
	}
	m, _, _ := manifest.Parse(st.Manifest)
	pins, e := solve.Solve(d.rows, m.Needs, 1<<20)
	if e != api.OK || lockfile.Text(pins) != st.Lock {
		t.Fatalf("P40.4: %q isn't the greatest of %q", st.Lock, index.Text(d.rows))
	}
}

func TestP40_5Failures(t *testing.T) {
	rnd := rand.New(rand.NewSource(3))
	codes := map[api.Errno]int{}
	for range 200 {
		x := life(t, 1024)
		x.Do(begin(0, api.CmdInit, "me", "1.0.0"))
		x.Do(run(0))
		for range 15 {
			for range rnd.Intn(8) {
				x.Do(api.Event{Kind: api.EventFault, A: rnd.Intn(6), N: rnd.Intn(1000)})
			}
			before := x.World().State()
			x.Do(api.Event{Kind: api.EventCmd, C: someCmd(rnd)})
			told := x.Do(run(0))
			codes[told.Err]++
			now := x.World().State()
			sound(t, now)
			if told.Err != api.OK {
				if !state.Same(bare(now), bare(before)) {
					t.Fatalf("%v changed something", told)
				}
				for _, k := range before.Cache {
					if !slices.Contains(now.Cache, k) {
						t.Fatalf("%v lost what was cached", told)
					}
				}
			}
		}
	}
	for _, e := range []api.Errno{api.OK, api.ErrInit, api.ErrCmd, api.ErrNeed, api.ErrUnsat, api.ErrSpan, api.ErrFailed, api.ErrDigest, api.ErrNetwork} {
		if codes[e] == 0 {
			t.Errorf("%v never came", e)
		}
	}
}

func TestP40_6Served(t *testing.T) {
	rnd := rand.New(rand.NewSource(4))
	e := registry()
	for range 300 {
		x := life(t, 1024)
		x.Do(begin(0, api.CmdInit, "me", "1.0.0"))
		x.Do(run(0))
		need := api.Need{Name: []string{"app", "lib", "log"}[rnd.Intn(3)], Span: api.Span{Any: true}}
		pins, _ := solve.Solve(e.Rows, []api.Need{need}, 1<<20)
		x.Do(begin(0, api.CmdAdd, need.Name, "*"))
		faults, row, steps, most := 0, 0, 0, 4
		for _, p := range pins {
			r, _ := index.Find(e.Rows, p.Name, p.V)
			most += 1 + 2*((r.Size+api.Chunk-1)/api.Chunk)
		}
		for {
			// Never four faulty replies in a row, and none spoilt.
			if steps >= 2 && row < 3 && rnd.Intn(2) == 0 {
				x.Do(api.Event{Kind: api.EventFault, A: 1 + rnd.Intn(2), N: rnd.Intn(40)})
				faults++
				row++
			} else {
				x.Do(api.Event{Kind: api.EventFault})
				row = 0
			}
			steps++
			if told := x.Do(step(0)); told.Over {
				if told.Err != api.OK {
					t.Fatalf("not served: %v", told.Err)
				}
				break
			}
		}
		if steps > most+4*faults {
			t.Errorf("%d steps, more than %d and 4 times %d", steps, most, faults)
		}
		for range 20 { // faults that wait
			x.World().Net().Get(api.Ask{})
		}
		sound(t, x.World().State())
		x.Do(begin(1, api.CmdInstall, "", ""))
		x.Do(run(1))
		x.Do(begin(1, api.CmdVerify, "", ""))
		if told := x.Do(run(1)); told != (api.Told{Over: true}) {
			t.Errorf("verify: %v", told)
		}
	}
}

// anyEvents: events without sense.
func anyEvents(rnd *rand.Rand, n int) []api.Event {
	texts := []string{"", "*", "^1.0.0", "me", "app", "x\x00", "pack a 1.0.0", "lock 1\n", "name a\nversion 1.0.0\n", fmt.Sprint(rnd.Int63())}
	numbers := []int{0, 1, 2, 3, -1, 64, 255, 1 << 20, -1 << 63, 1<<63 - 1}
	text, _ := sample.Index(sample.Life()[:rnd.Intn(9)]...)
	texts = append(texts, text)
	var out []api.Event
	for range n {
		c := someCmd(rnd)
		if rnd.Intn(4) == 0 {
			c = api.Cmd{Kind: numbers[rnd.Intn(len(numbers))], Name: texts[rnd.Intn(len(texts))], Text: texts[rnd.Intn(len(texts))]}
		}
		e := api.Event{Kind: rnd.Intn(9) - 1, A: numbers[rnd.Intn(len(numbers))], N: numbers[rnd.Intn(len(numbers))], C: c, T: texts[rnd.Intn(len(texts))]}
		if rnd.Intn(2) == 0 {
			e.Kind, e.A = rnd.Intn(3), rnd.Intn(2)
		}
		out = append(out, e)
	}
	return out
}

func TestP40_8SameAgainP40_9Total(t *testing.T) {
	rnd := rand.New(rand.NewSource(5))
	for range 60 {
		l := anyEvents(rnd, 200)
		var first []api.Told
		for i := range 2 {
			x := life(t, 216)
			var told []api.Told
			for _, got := range play.Play(x, l...) {
				told = append(told, got)
				if !state.Held(x.World().State()) {
					t.Fatal("a state that doesn't hold")
				}
			}
			if i == 0 {
				first = told
			} else if !slices.Equal(first, told) {
				t.Fatal("P40.8: the same life again tells otherwise")
			}
		}
	}
	// Registries without sense.
	for range 40 {
		text, archives := sample.Index(sample.Life()...)
		b := []byte(text)
		for range rnd.Intn(5) {
			b[rnd.Intn(len(b))] = byte(rnd.Intn(256))
		}
		for range rnd.Intn(5) {
			a := archives[rnd.Intn(len(archives))]
			a[rnd.Intn(len(a))] = byte(rnd.Intn(256))
		}
		x, _, e := play.New(rnd.Intn(300), rnd.Intn(700), string(b), archives[:rnd.Intn(len(archives)+1)])
		if e != api.OK {
			continue
		}
		for range play.Play(x, anyEvents(rnd, 100)...) {
		}
	}
}
