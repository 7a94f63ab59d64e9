package proc_test

import (
	"bytes"
	"errors"
	"fmt"
	"maps"
	"math/rand"
	"slices"
	"testing"

	"haversack/api"
	"haversack/cache"
	"haversack/cmd"
	"haversack/disk"
	"haversack/fault"
	"haversack/index"
	"haversack/latch"
	"haversack/net"
	"haversack/proc"
	"haversack/sample"
	"haversack/sha"
	"haversack/state"
	"haversack/store"
)

// bench: what a process works on.
type bench struct {
	t *testing.T
	d *disk.Disk
	s *store.Store
	l *latch.Latch
	n *net.Net
	e cmd.Env
}

func made(t *testing.T, sectors int) *bench {
	t.Helper()
	rows, archives := sample.Registry(sample.Life()...)
	b := &bench{t: t, d: disk.New(sectors, 512), n: net.New(rows, archives), e: cmd.Env{Rows: rows, Archives: archives}}
	b.open()
	return b
}

func (b *bench) open() {
	b.t.Helper()
	b.d.Crash(0, -1, 0)
	var e1, e2 api.Errno
	b.s, e1 = store.Open(b.d)
	b.l, e2 = latch.Open(b.s)
	if e1 != api.OK || e2 != api.OK {
		b.t.Fatal(e1, e2)
	}
}

// world: what cmd takes of it.
func (b *bench) world() cmd.World {
	w := cmd.World{S: state.Load(b.s), Bytes: map[api.Key][]byte{}}
	for _, k := range w.S.Cache {
		w.Bytes[k], _ = cache.New(b.s).Get(k)
	}
	return w
}

// run steps a command to its end, and tells its error and how many steps there were.
func (b *bench) run(c api.Cmd) (error, int) {
	b.t.Helper()
	p := proc.New(0, c)
	for i := 1; ; i++ {
		ahead := state.Load(b.s)
		over, err := p.Step(b.s, b.l, b.n)
		if over != p.Over() || p.Steps() != i || err != nil && !over {
			b.t.Fatalf("%v: %v %v in %d steps, told %d", c, over, err, i, p.Steps())
		}
		if over {
			if again, err := p.Step(b.s, b.l, b.n); !again || err != nil || p.Steps() != i {
				b.t.Fatal("a Step of one that is over")
			}
			return err, i
		}
		now := state.Load(b.s)
		ahead.Cache, now.Cache = nil, nil
		if !state.Same(ahead, now) {
			b.t.Fatalf("%v is seen ahead of its last step", c)
		}
	}
}

func (b *bench) well(l ...api.Cmd) {
	b.t.Helper()
	for _, c := range l {
		if err, _ := b.run(c); err != nil {
			b.t.Fatalf("%v: %v", c, err)
		}
	}
}

func c(kind int, name, text string) api.Cmd { return api.Cmd{Kind: kind, Name: name, Text: text} }

func told(t *testing.T, what string, err error, op, name string, e api.Errno) {
	t.Helper()
	var f *fault.Fault
	if !errors.As(err, &f) || f != err || f.Op != op || f.Name != name || fault.Code(err) != e {
		t.Errorf("%s: %v, not %s %s %v", what, err, op, name, e)
	}
}

func TestP27_1Steps(t *testing.T) {
	b := made(t, 256)
	size := func(i int) int { return (b.e.Rows[i].Size + api.Chunk - 1) / api.Chunk }
	for _, x := range []struct {
		c     api.Cmd
		steps int
	}{
		{c(api.CmdInit, "me", "1.0.0"), 4}, {c(api.CmdVerify, "", ""), 2}, {c(api.CmdSweep, "", ""), 2}, {c(api.CmdAdd, "app", "^1.0.0"), 4 + size(0) + size(3)}, {c(api.CmdInstall, "", ""), 4}, {c(api.CmdVerify, "", ""), 2}, {c(api.CmdAdd, "log", "1.0.0"), 4 + size(5)},
	} {
		if err, n := b.run(x.c); err != nil || n != x.steps {
			t.Errorf("%v: %v, %d steps, not %d", x.c, err, n, x.steps)
		}
	}
	p := proc.New(0, c(api.CmdVerify, "", ""))
	if p.Over() || p.Steps() != 0 {
		t.Error("something is done at New")
	}
}

func TestP27_1Busy(t *testing.T) {
	b := made(t, 256)
	for _, owner := range []int{0, 1} {
		first, second := proc.New(0, c(api.CmdInit, "me", "1.0.0")), proc.New(owner, c(api.CmdInit, "other", "1.0.0"))
		first.Step(b.s, b.l, b.n)
		over, err := second.Step(b.s, b.l, b.n)
		told(t, "held", err, "lock", "", api.ErrBusy)
		if !over || !second.Over() || second.Steps() != 1 {
			t.Error("one that is busy goes on")
		}
		if ok, _ := b.l.Try(5); ok {
			t.Error("one that was busy left the latch")
		}
		for !first.Over() {
			if _, err := first.Step(b.s, b.l, b.n); err != nil && owner == 0 {
				t.Error(err)
			}
		}
	}
	if m := state.Load(b.s).Manifest; m != "name me\nversion 1.0.0\n" {
		t.Errorf("%q", m)
	}
}

func TestP27_1TheLatchIsLeft(t *testing.T) {
	b := made(t, 256)
	b.well(c(api.CmdInit, "me", "1.0.0"))
	if _, _, noted := b.l.Holder(); noted {
		t.Error("a holder is noted behind Save")
	}
	for _, x := range []struct {
		c        api.Cmd
		op, name string
		e        api.Errno
	}{
		{c(api.CmdInit, "me", "1.0.0"), "plan", "me", api.ErrInit}, {c(99, "n", ""), "plan", "n", api.ErrCmd}, {c(api.CmdAdd, "bad", "*"), "build", "bad", api.ErrFailed}, {c(api.CmdAdd, "odd", "*"), "plan", "odd", api.ErrUnsat}, {c(api.CmdVerify, "", ""), "", "", api.OK}, {c(api.CmdSweep, "", ""), "", "", api.OK},
	} {
		err, _ := b.run(x.c)
		if x.e == api.OK && err != nil {
			t.Error(err)
		} else if x.e != api.OK {
			told(t, fmt.Sprint(x.c), err, x.op, x.name, x.e)
		}
		if ok, e := b.l.Try(1); !ok || e != api.OK {
			t.Errorf("%v: the latch isn't left", x.c)
		}
		b.l.Leave(1)
	}
}

func TestP27_1Sweep(t *testing.T) {
	b := made(t, 512)
	b.well(c(api.CmdInit, "me", "1.0.0"), c(api.CmdAdd, "app", "1.0.0"), c(api.CmdAdd, "app", "2.0.0"))
	x := cache.New(b.s)
	kept, gone := b.e.Rows[1].Sum, b.e.Rows[0].Sum
	x.SetPart(kept, "kept")
	x.SetPart(gone, "gone")
	x.SetPart(api.Key{7}, "gone, too")
	k, _ := x.Put([]byte("what no pin has"))
	if len(x.Keys()) != 6 {
		t.Fatal(len(x.Keys()))
	}
	for n := range 14 { // at once, whenever the power goes
		d := b.d.Copy()
		s, _ := store.Open(d)
		l, _ := latch.Open(s)
		p := proc.New(0, c(api.CmdSweep, "", ""))
		p.Step(s, l, b.n)
		d.Cut(n)
		_, err := p.Step(s, l, b.n)
		if err != nil {
			told(t, "no power", err, "disk", "", api.ErrDiskDead)
		}
		d.Crash(^uint64(n), n%3, n*30)
		s, _ = store.Open(d)
		if got := len(s.Keys("c/")) + len(s.Keys("p/")); got != 9 && got != 4 || err == nil && got != 4 {
			t.Errorf("cut at %d: %d are left", n, got)
		}
	}
	b.well(c(api.CmdSweep, "", ""))
	if _, there := x.Get(k); there || len(x.Keys()) != 3 || x.Part(kept) != "kept" || x.Part(gone) != "" || len(b.s.Keys("p/")) != 1 {
		t.Errorf("%d cached, parts %q", len(x.Keys()), b.s.Keys("p/"))
	}
	b.well(c(api.CmdVerify, "", ""))
}

func TestP27_1Check(t *testing.T) {
	b := made(t, 512)
	b.well(c(api.CmdInit, "me", "1.0.0"), c(api.CmdAdd, "lib", "1.5.0"), c(api.CmdVerify, "", ""))
	st := state.Load(b.s)
	state.Save(b.s, st.Manifest, st.Lock, append(slices.Clone(st.Tree), sample.File("lib/more", "")))
	err, n := b.run(c(api.CmdVerify, "n", ""))
	told(t, "a file more", err, "verify", "", api.ErrDrift)
	if n != 2 {
		t.Errorf("%d steps", n)
	}
	cache.New(b.s).Drop(st.Cache...)
	err, _ = b.run(c(api.CmdVerify, "n", ""))
	told(t, "not cached", err, "build", "lib", api.ErrMissing)
	state.Save(b.s, st.Manifest, "lock 1\n", st.Tree)
	err, _ = b.run(c(api.CmdVerify, "n", ""))
	told(t, "not pinned", err, "plan", "n", api.ErrDrift)
}

func TestP27_1FetchErrors(t *testing.T) {
	lock := func(b *bench, sum api.Key) string {
		return "lock 1\nlib 1.5.0 " + sha.Hex(sum) + "\n"
	}
	m := "name me\nversion 1.0.0\n"
	for _, x := range []struct {
		what  string
		setup func(b *bench)
		e     api.Errno
	}{
		{"no such row", func(b *bench) { b.n.SetRows(nil) }, api.ErrMissing},
		{"another sum", func(b *bench) { state.Save(b.s, m, lock(b, api.Key{}), nil) }, api.ErrDigest},
		{"no archive", func(b *bench) { b.n = net.New(b.e.Rows, nil) }, api.ErrMissing},
		{"faulty replies", func(b *bench) {
			for range 4 {
				b.n.Fault(api.Fault{Kind: api.FaultLost})
			}
		}, api.ErrNetwork},
		{"spoilt", func(b *bench) {
			b.e.Archives[3][9]++
			b.n = net.New(b.e.Rows, b.e.Archives)
		}, api.ErrDigest},
	} {
		b := made(t, 512)
		state.Save(b.s, m, lock(b, b.e.Rows[3].Sum), nil)
		x.setup(b)
		before := state.Load(b.s)
		err, _ := b.run(c(api.CmdInstall, "", ""))
		told(t, x.what, err, "fetch", "lib", x.e)
		if !state.Same(state.Load(b.s), before) || len(b.s.Keys("p/")) != 0 {
			t.Errorf("%s: something is left", x.what)
		}
	}
}

func TestP27_1Parts(t *testing.T) {
	b := made(t, 512)
	b.well(c(api.CmdInit, "me", "1.0.0"))
	row := b.e.Rows[4]
	size := (row.Size + api.Chunk - 1) / api.Chunk
	// The power goes in the midst of a fetch: the next command goes on from there.
	p := proc.New(0, c(api.CmdAdd, "lib", "2.0.0"))
	for range 2 + 3 {
		p.Step(b.s, b.l, b.n)
	}
	b.open()
	if cache.New(b.s).Part(row.Sum) == "" {
		t.Error("no part is kept")
	}
	before := b.n.Count()
	err, n := b.run(c(api.CmdAdd, "lib", "2.0.0"))
	if err != nil || b.n.Count()-before != size-3+(b.e.Rows[5].Size+api.Chunk-1)/api.Chunk || n != 4+b.n.Count()-before {
		t.Errorf("%v: %d steps, %d Gets", err, n, b.n.Count()-before)
	}
	if len(b.s.Keys("p/")) != 0 {
		t.Error("a part is left")
	}
}

func TestP27_1APartThatIsAll(t *testing.T) {
	b := made(t, 512)
	b.well(c(api.CmdInit, "me", "1.0.0"))
	row := b.e.Rows[5]
	piece := b.e.Archives[5]
	cache.New(b.s).SetPart(row.Sum, string([]byte{byte(len(piece))})+string(piece)+"\x00\x00")
	err, n := b.run(c(api.CmdAdd, "log", "1.0.0"))
	if err != nil || n != 5 || b.n.Count() != 0 {
		t.Errorf("%v: %d steps, %d Gets", err, n, b.n.Count())
	}
}

func TestP27_1RowsAsTheyWereWhenPlanned(t *testing.T) {
	b := made(t, 512)
	b.well(c(api.CmdInit, "me", "1.0.0"))
	p := proc.New(0, c(api.CmdAdd, "lib", "<2.0.0"))
	p.Step(b.s, b.l, b.n)
	rows, _ := sample.Registry(sample.Life()[:3]...)
	b.n.SetRows(rows)
	p.Step(b.s, b.l, b.n)
	b.n.SetRows(nil)
	_, err := p.Step(b.s, b.l, b.n)
	told(t, "the registry has none any more", err, "fetch", "lib", api.ErrMissing)
	p = proc.New(0, c(api.CmdAdd, "lib", "<2.0.0"))
	b.n.SetRows(rows)
	p.Step(b.s, b.l, b.n)
	p.Step(b.s, b.l, b.n)
	b.n.SetRows(b.e.Rows)
	for !p.Over() {
		if _, err := p.Step(b.s, b.l, b.n); err != nil {
			t.Error(err)
		}
	}
	if lock := state.Load(b.s).Lock; lock != "lock 1\nlib 1.0.0 "+sha.Hex(rows[2].Sum)+"\n" {
		t.Errorf("%q", lock)
	}
}

func TestP27_1DiskErrors(t *testing.T) {
	b := made(t, 256)
	b.well(c(api.CmdInit, "me", "1.0.0"))
	before := state.Load(b.s)
	for n := range 60 {
		d := b.d.Copy()
		s, _ := store.Open(d)
		l, _ := latch.Open(s)
		p := proc.New(0, c(api.CmdAdd, "log", "1.0.0"))
		d.Cut(n)
		for !p.Over() {
			if _, err := p.Step(s, l, b.n); err != nil {
				told(t, "no power", err, "disk", "", api.ErrDiskDead)
				if st := state.Load(s); st.Manifest != before.Manifest || st.Lock != before.Lock {
					t.Error("something is seen")
				}
			}
		}
	}
	// A fetch that fails when there is no power.
	d := b.d.Copy()
	s, _ := store.Open(d)
	l, _ := latch.Open(s)
	p := proc.New(0, c(api.CmdAdd, "log", "1.0.0"))
	p.Step(s, l, b.n)
	p.Step(s, l, b.n)
	d.Cut(0)
	_, err := p.Step(s, l, net.New(nil, nil))
	told(t, "SetPart finds no power", err, "disk", "", api.ErrDiskDead)
	// No room.
	small := made(t, 16)
	small.well(c(api.CmdInit, "me", "1.0.0"))
	rows, archives := sample.Registry(sample.Pack{Name: "big", Version: "1.0.0", Files: []api.File{sample.File("f", string(make([]byte, 9000)))}})
	small.n = net.New(rows, archives)
	before = state.Load(small.s)
	err, _ = small.run(c(api.CmdAdd, "big", "*"))
	told(t, "no room", err, "disk", "", api.ErrFull)
	if !state.Same(state.Load(small.s), before) {
		t.Error("something is seen")
	}
	if ok, _ := small.l.Try(3); !ok {
		t.Error("the latch isn't left")
	}
}

// commands: some, of which many fail.
func commands(rnd *rand.Rand) api.Cmd {
	names := []string{"app", "lib", "log", "bad", "odd", "zip", "me", ""}
	spans := []string{"*", "^1.0.0", "2.0.0", "<2.0.0", ">=1.1.0-a", "x", "1.0.0"}
	return c(rnd.Intn(8), names[rnd.Intn(len(names))], spans[rnd.Intn(len(spans))])
}

func TestP27_2AsCmd(t *testing.T) {
	rnd := rand.New(rand.NewSource(1))
	for range 30 {
		b := made(t, 1024)
		b.well(c(api.CmdInit, "me", "1.0.0"))
		for range 25 {
			x := commands(rnd)
			if rnd.Intn(5) == 0 {
				half := b.e.Rows[rnd.Intn(len(b.e.Rows)):]
				b.n = net.New(half, b.e.Archives[len(b.e.Rows)-len(half):])
			}
			rows := b.n.Rows()
			want, wantErr := cmd.Do(b.world(), cmd.Env{Rows: rows, Archives: b.e.Archives[len(b.e.Archives)-len(rows):]}, x)
			if rnd.Intn(3) == 0 {
				b.n.Fault(api.Fault{Kind: rnd.Intn(3), N: rnd.Intn(60)})
			}
			err, _ := b.run(x)
			if fault.Text(err) != fault.Text(wantErr) {
				t.Fatalf("%v: %v, not %v", x, err, wantErr)
			}
			got := b.world()
			if !state.Same(got.S, want.S) || !maps.EqualFunc(got.Bytes, want.Bytes, bytes.Equal) {
				t.Fatalf("%v: %v, not %v", x, got.S, want.S)
			}
			if rnd.Intn(4) == 0 {
				b.open()
			}
		}
	}
}

func TestP27_3NothingIsSeenAheadOfItsLastStep(t *testing.T) {
	rnd := rand.New(rand.NewSource(2))
	b := made(t, 1024)
	b.well(c(api.CmdInit, "me", "1.0.0"))
	for range 60 { // run asks it at every step
		b.run(commands(rnd))
		if rnd.Intn(3) == 0 {
			b.n.Fault(api.Fault{Kind: rnd.Intn(5), N: rnd.Intn(600)})
		}
	}
	if rows := b.n.Rows(); index.Text(rows) != index.Text(b.e.Rows) {
		t.Error("the registry's rows are changed")
	}
}
