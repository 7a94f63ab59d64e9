package world_test

import (
	"math/rand"
	"slices"
	"testing"

	"haversack/api"
	"haversack/disk"
	"haversack/index"
	"haversack/sample"
	"haversack/state"
	"haversack/store"
	"haversack/wal"
	"haversack/world"
)

func made(t *testing.T, sectors int) (*world.World, *disk.Disk) {
	t.Helper()
	rows, archives := sample.Registry(sample.Life()...)
	d := disk.New(sectors, 512)
	w, e := world.New(d, rows, archives)
	if e != api.OK {
		t.Fatal(e)
	}
	return w, d
}

func begin(p, kind int, name, text string) api.Event {
	return api.Event{Kind: api.EventCmd, A: p, C: api.Cmd{Kind: kind, Name: name, Text: text}}
}

func step(p int) api.Event { return api.Event{Kind: api.EventStep, A: p} }
func run(p int) api.Event  { return api.Event{Kind: api.EventRun, A: p} }

// tells does an event, and asks what it told.
func tells(t *testing.T, what string, w *world.World, e api.Event, over bool, err api.Errno) {
	t.Helper()
	if got := w.Do(e); got != (api.Told{Over: over, Err: err}) {
		t.Errorf("%s: %v, not %v %v", what, got, over, err)
	}
}

func running(t *testing.T, what string, w *world.World, want ...int) {
	t.Helper()
	for p := -1; p < 4; p++ {
		if w.Running(p) != slices.Contains(want, p) {
			t.Errorf("%s: process %d runs: %v", what, p, w.Running(p))
		}
	}
}

func TestP28_1New(t *testing.T) {
	rows, archives := sample.Registry(sample.Life()...)
	if w, e := world.New(disk.New(15, 512), rows, archives); e != api.ErrForm || w != nil {
		t.Errorf("too few sectors: %v", e)
	}
	d := disk.New(64, 512)
	l, _, _ := wal.Open(d)
	l.Commit([]byte("no store's"))
	if w, e := world.New(d, rows, archives); e != api.ErrForm || w != nil {
		t.Errorf("no store: %v", e)
	}
	d = disk.New(64, 512)
	d.Cut(1)
	if w, e := world.New(d, rows, archives); e != api.ErrDiskDead || w != nil {
		t.Errorf("the latch's error: %v", e)
	}
	w, d := made(t, 128)
	running(t, "a new one", w)
	if w.Down() || !state.Same(w.State(), api.State{}) || index.Text(w.Net().Rows()) != index.Text(rows) {
		t.Error("a new one")
	}
	w.Do(begin(0, api.CmdInit, "me", "1.0.0"))
	tells(t, "init", w, run(0), true, api.OK)
	s, _ := store.Open(d)
	if !state.Same(w.State(), state.Load(s)) || w.State().Manifest == "" {
		t.Error("State isn't what the store has")
	}
}

func TestP28_2Commands(t *testing.T) {
	w, _ := made(t, 256)
	for _, p := range []int{-1, 2, 1 << 40} {
		tells(t, "no process", w, begin(p, api.CmdInit, "me", "1.0.0"), false, api.OK)
		tells(t, "no process", w, step(p), false, api.OK)
		tells(t, "no process", w, run(p), false, api.OK)
	}
	tells(t, "runs nothing", w, step(0), false, api.OK)
	tells(t, "runs nothing", w, run(1), false, api.OK)
	tells(t, "begins", w, begin(1, api.CmdInit, "me", "1.0.0"), false, api.OK)
	running(t, "begun", w, 1)
	tells(t, "runs already", w, begin(1, api.CmdInit, "other", "1.0.0"), false, api.OK)
	for range 3 {
		tells(t, "a step", w, step(1), false, api.OK)
		running(t, "a step", w, 1)
	}
	if w.State().Manifest != "" {
		t.Error("seen ahead of its end")
	}
	tells(t, "the last step", w, step(1), true, api.OK)
	running(t, "over", w)
	if w.State().Manifest != "name me\nversion 1.0.0\n" {
		t.Errorf("%q", w.State().Manifest)
	}
	w.Do(begin(0, api.CmdAdd, "bad", "*"))
	tells(t, "an error", w, run(0), true, api.ErrFailed)
	w.Do(begin(0, api.CmdAdd, "app", "*"))
	tells(t, "add", w, run(0), true, api.OK)
	w.Do(begin(1, api.CmdVerify, "", ""))
	tells(t, "verify", w, run(1), true, api.OK)
	tells(t, "another kind", w, api.Event{Kind: 99}, false, api.OK)
	tells(t, "another kind", w, api.Event{Kind: -1}, false, api.OK)
}

func TestP28_2Busy(t *testing.T) {
	w, _ := made(t, 256)
	w.Do(begin(0, api.CmdInit, "me", "1.0.0"))
	w.Do(begin(1, api.CmdInit, "other", "1.0.0"))
	running(t, "both", w, 0, 1)
	tells(t, "first", w, step(0), false, api.OK)
	tells(t, "second", w, step(1), true, api.ErrBusy)
	running(t, "one", w, 0)
	tells(t, "first", w, run(0), true, api.OK)
	w.Do(begin(1, api.CmdInit, "other", "1.0.0"))
	tells(t, "second", w, run(1), true, api.ErrInit)
}

func TestP28_2FaultsIndex(t *testing.T) {
	w, _ := made(t, 512)
	w.Do(begin(0, api.CmdInit, "me", "1.0.0"))
	w.Do(run(0))
	for range 4 {
		tells(t, "a fault", w, api.Event{Kind: api.EventFault, A: api.FaultShort, N: 3}, false, api.OK)
	}
	w.Do(begin(0, api.CmdAdd, "lib", "*"))
	tells(t, "too many faulty replies", w, run(0), true, api.ErrNetwork)
	if w.Net().Count() != 4 {
		t.Errorf("%d Gets", w.Net().Count())
	}
	text, _ := sample.Index(sample.Life()[:3]...)
	tells(t, "an index", w, api.Event{Kind: api.EventIndex, T: text}, false, api.OK)
	tells(t, "a bad index", w, api.Event{Kind: api.EventIndex, T: text + "x"}, false, api.OK)
	if index.Text(w.Net().Rows()) != text {
		t.Error("not the registry's index")
	}
	w.Do(begin(0, api.CmdAdd, "lib", "*"))
	tells(t, "add", w, run(0), true, api.OK)
}

func TestP28_2Down(t *testing.T) {
	w, d := made(t, 256)
	w.Do(begin(0, api.CmdInit, "me", "1.0.0"))
	w.Do(begin(1, api.CmdVerify, "", ""))
	tells(t, "a cut", w, api.Event{Kind: api.EventCut, A: 2}, false, api.OK)
	if w.Down() {
		t.Error("down ahead of a write")
	}
	tells(t, "no power", w, step(0), true, api.ErrDown)
	if !w.Down() || !d.Dead() {
		t.Error("not down")
	}
	running(t, "down", w, 1)
	tells(t, "a later cut", w, api.Event{Kind: api.EventCut, A: 100}, false, api.OK)
	tells(t, "one that runs", w, run(1), true, api.ErrDown)
	tells(t, "one that runs nothing", w, step(1), false, api.OK)
	tells(t, "begins all the same", w, begin(0, api.CmdInit, "me", "1.0.0"), false, api.OK)
	running(t, "down", w, 0)
	tells(t, "a step", w, step(0), true, api.ErrDown)
	w.Do(begin(1, api.CmdInit, "me", "1.0.0"))
	w.Do(api.Event{Kind: api.EventFault, A: api.FaultLost})
	tells(t, "a crash", w, api.Event{Kind: api.EventCrash}, false, api.OK)
	running(t, "a crash", w)
	if w.Down() || d.Dead() {
		t.Error("down behind a crash")
	}
	w.Do(begin(1, api.CmdInit, "me", "1.0.0"))
	tells(t, "up again", w, run(1), true, api.OK)
	before := w.Net().Count()
	w.Do(begin(1, api.CmdAdd, "log", "1.0.0"))
	tells(t, "a fault that waits", w, run(1), true, api.OK)
	if n := w.Net().Count() - before; n != 2 {
		t.Errorf("a fault that waited is gone: %d Gets", n)
	}
}

func TestP28_2CrashKeepsAndTears(t *testing.T) {
	for _, x := range []struct {
		a, n     int
		keep     uint64
		torn, at int
	}{
		{0, 0, 0, -1, 0}, {-1, 0, ^uint64(0), -1, 0}, {5, 1, 5, 0, 0}, {5, 2 + 256*70, 5, 1, 70}, {0, 3 + 256*512, 0, 2, 512}, {1, 255 + 256, 1, 254, 1}, {-1, -1, ^uint64(0), 254, 0}, {0, -255, 0, 0, 0},
	} {
		w, d := made(t, 128)
		w.Do(begin(0, api.CmdInit, "me", "1.0.0"))
		for i := range 5 {
			b := make([]byte, 512)
			for j := range b {
				b[j] = byte('a' + i)
			}
			d.Write(120+i, b)
		}
		c := d.Copy()
		c.Crash(x.keep, x.torn, x.at)
		w.Do(api.Event{Kind: api.EventCrash, A: x.a, N: x.n})
		for i := range 5 {
			want, _ := c.Read(120 + i)
			if got, _ := d.Read(120 + i); string(got) != string(want) {
				t.Errorf("%v: sector %d", x, i)
			}
		}
	}
}

func TestP28_2DownForGood(t *testing.T) {
	w, d := made(t, 128)
	w.Do(begin(0, api.CmdInit, "me", "1.0.0"))
	w.Do(run(0))
	l, _, _ := wal.Open(d)
	l.Reset([]byte("no store's"))
	w.Do(begin(0, api.CmdVerify, "", ""))
	w.Do(api.Event{Kind: api.EventCrash})
	running(t, "a crash", w)
	for range 2 {
		if !w.Down() {
			t.Fatal("not down")
		}
		w.Do(begin(1, api.CmdVerify, "", ""))
		tells(t, "down for good", w, run(1), true, api.ErrDown)
		l.Reset()
		w.Do(api.Event{Kind: api.EventCrash})
	}
	w.State()
}

// TestP28_3: behind any crash the state is one of those ahead of a command and behind it.
func TestP28_3Crashes(t *testing.T) {
	commands := []api.Event{begin(0, api.CmdInit, "me", "1.0.0"), begin(0, api.CmdAdd, "app", "^1.0.0"), begin(0, api.CmdAdd, "log", "*"), begin(0, api.CmdSweep, "", ""), begin(0, api.CmdRemove, "app", "")}
	rnd := rand.New(rand.NewSource(1))
	for round := range 60 {
		w, _ := made(t, 512)
		done := w.State()
		for _, e := range commands {
			if rnd.Intn(3) == 0 {
				w.Do(api.Event{Kind: api.EventCut, A: rnd.Intn(60)})
			}
			w.Do(e)
			told := w.Do(run(0))
			now := w.State()
			if told.Err == api.ErrDown {
				w.Do(api.Event{Kind: api.EventCrash, A: int(rnd.Uint64()), N: rnd.Intn(1 << 17)})
				now = w.State()
			}
			if !state.Held(now) {
				t.Fatalf("round %d: %v doesn't hold", round, now)
			}
			if told.Err != api.OK && told.Err != api.ErrDown {
				now.Cache, done.Cache = nil, nil
				if !state.Same(now, done) {
					t.Fatalf("round %d: %v changed something", round, told)
				}
			}
			done = now
		}
	}
}
