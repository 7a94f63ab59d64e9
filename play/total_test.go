package play_test

import (
	"math/rand"
	"strings"
	"testing"

	"haversack/api"
	"haversack/archive"
	"haversack/audit"
	"haversack/cache"
	"haversack/cmd"
	"haversack/code"
	"haversack/disk"
	"haversack/fetch"
	"haversack/index"
	"haversack/latch"
	"haversack/lockfile"
	"haversack/manifest"
	"haversack/net"
	"haversack/path"
	"haversack/plan"
	"haversack/proc"
	"haversack/script"
	"haversack/sha"
	"haversack/solve"
	"haversack/span"
	"haversack/stage"
	"haversack/state"
	"haversack/store"
	"haversack/tree"
	"haversack/ver"
	"haversack/vm"
	"haversack/why"
)

// odd: values without sense.
type odd struct{ *rand.Rand }

func (o odd) number() int {
	l := []int{0, 1, 2, 3, 5, 64, 65, -1, 1 << 20, api.MaxPart, -1 << 63, 1<<63 - 1}
	return l[o.Intn(len(l))]
}

func (o odd) text() string {
	l := []string{"", "a", "b", "me", "a/b", "../a", "/", "1.0.0", "^1.0.0", "* || x", "\x00", "é", "$a", "\"", "a\nb", "lock 1\n", "name a\nversion 1.0.0\n", "need b *\n", strings.Repeat("x", 300), "PAK1\xff", "-", "build.hs"}
	return l[o.Intn(len(l))] + []string{"", l[o.Intn(len(l))]}[o.Intn(2)]
}

func (o odd) bytes() []byte { return []byte(o.text()) }

func (o odd) version() api.Version {
	v := api.Version{Major: o.number(), Minor: o.number(), Patch: o.number()}
	for range o.Intn(3) {
		v.Pre = append(v.Pre, o.text())
	}
	return v
}

func (o odd) span() api.Span {
	s := api.Span{Any: o.Intn(3) == 0}
	for range o.Intn(3) {
		var l []api.Bound
		for range o.Intn(3) {
			l = append(l, api.Bound{Sign: []string{"=", "<", "", ">=", "?"}[o.Intn(5)], V: o.version()})
		}
		s.Or = append(s.Or, l)
	}
	return s
}

func (o odd) needs() (l []api.Need) {
	for range o.Intn(4) {
		l = append(l, api.Need{Name: []string{"a", "b", "", o.text()}[o.Intn(4)], Span: o.span(), Text: o.text()})
	}
	return l
}

func (o odd) rows() (l []api.Row) {
	for range o.Intn(6) {
		l = append(l, api.Row{Name: []string{"a", "b", "", o.text()}[o.Intn(4)], V: o.version(), Sum: sha.Sum(o.bytes()), Size: o.number(), Needs: o.needs()})
	}
	if o.Intn(20) == 0 {
		for len(l) > 0 && len(l) < 300 {
			l = append(l, l...)
		}
	}
	return l
}

func (o odd) pins() (l []api.Pin) {
	for range o.Intn(4) {
		l = append(l, api.Pin{Name: o.text(), V: o.version(), Sum: sha.Sum(o.bytes())})
	}
	return l
}

func (o odd) files() (l []api.File) {
	for range o.Intn(4) {
		l = append(l, api.File{Path: o.text(), Dir: o.Intn(2) == 0, B: o.bytes()})
	}
	return l
}

func (o odd) lines() (l []api.Line) {
	for range o.Intn(8) {
		l = append(l, api.Line{Kind: o.Intn(15) - 1, A: o.text(), B: o.text(), Text: o.text(), N: o.number(), Not: o.Intn(2) == 0})
	}
	return l
}

func (o odd) state() api.State {
	return api.State{Manifest: o.text(), Lock: o.text(), Cache: []api.Key{sha.Sum(o.bytes())}, Tree: o.files()}
}

func (o odd) cmd() api.Cmd {
	return api.Cmd{Kind: []int{o.Intn(8), o.number()}[o.Intn(2)], Name: o.text(), Text: o.text()}
}

// texts calls what takes texts and values.
func (o odd) texts() {
	sha.Parse(o.text())
	r := code.NewReader(o.bytes())
	_, _, _, _, _ = r.Num(), r.Int(), r.Text(), r.Bool(), r.Done()
	path.Clean(o.text())
	path.Join(o.text(), o.text())
	path.Within(o.text(), o.text())
	ver.Parse(o.text())
	ver.Text(o.version())
	ver.Cmp(o.version(), o.version())
	ver.Next(o.version(), o.number())
	span.Parse(o.text())
	span.Text(o.span())
	span.Has(o.span(), o.version())
	span.Best(o.span(), []api.Version{o.version(), o.version()})
	manifest.Parse(o.text())
	m := api.Manifest{Name: o.text(), V: o.version(), Needs: o.needs()}
	manifest.Text(m)
	manifest.Remove(m, o.text())
	for _, n := range o.needs() {
		manifest.Add(m, n)
	}
	lockfile.Parse(o.text())
	lockfile.Text(o.pins())
	lockfile.Same(o.pins(), o.pins())
	archive.Open(o.bytes())
	archive.Open(archive.Pack(o.files()))
	script.Parse(o.text())
	script.Text(o.lines())
	script.Words(o.text())
	vm.Run(o.lines(), tree.New(), map[string]string{"a": o.text()}, o.number())
}

// packages calls what takes rows, needs, pins, states.
func (o odd) packages() {
	rows, needs, pins := o.rows(), o.needs(), o.pins()
	index.Parse(o.text())
	index.Text(rows)
	index.Find(rows, o.text(), o.version())
	index.Names(rows)
	index.Versions(rows, o.text())
	solved, _ := solve.Solve(rows, needs, 1+o.Intn(1000))
	solve.Solve(rows, needs, o.number())
	solve.Better(pins, solved)
	for _, l := range [][]api.Pin{pins, solved} {
		solve.Fits(rows, needs, l)
		why.Path(rows, needs, l, o.text())
		why.Users(rows, needs, l, o.text())
		plan.Changes(l, pins)
		stage.All(l, func(api.Key) ([]byte, bool) { return o.bytes(), o.Intn(2) == 0 })
	}
	why.Core(rows, needs)
	st := o.state()
	state.Held(st)
	state.Same(st, o.state())
	plan.Of(st, rows, o.cmd())
	audit.Check(st, rows)
	audit.Report(st, rows)
	audit.Outdated(st, rows)
	cmd.Do(cmd.World{S: st}, cmd.Env{Rows: rows, Archives: [][]byte{o.bytes(), nil}}, o.cmd())
	for _, p := range pins {
		cmd.Archive(cmd.Env{Rows: rows, Archives: [][]byte{o.bytes()}}, p)
	}
}

// things calls what has something that it is done to.
func (o odd) things() {
	d := disk.New(min(o.number(), 64), min(o.number(), 512))
	d.Cut(o.number())
	d.Read(o.number())
	d.Write(o.number(), o.bytes())
	d.Crash(o.Uint64(), o.number(), o.number())
	x := tree.New()
	x.Write(o.text(), o.bytes())
	x.Append(o.text(), o.bytes())
	x.Mkdir(o.text())
	x.Rename(o.text(), o.text())
	x.Copy(o.text(), o.text())
	x.Remove(o.text())
	n := net.New(o.rows(), [][]byte{o.bytes(), o.bytes()})
	n.Fault(api.Fault{Kind: o.number(), N: o.number()})
	for _, r := range n.Rows() {
		f := fetch.Open(r, o.text())
		for range 20 {
			if a, ok := f.Ask(); ok {
				f.Take(n.Get(a))
			}
			f.Take(api.Got{Kind: o.number(), B: o.bytes()})
		}
		f.Done()
		n.Get(api.Ask{Name: r.Name, V: r.V, Off: o.number(), N: o.number()})
	}
	s, e := store.Open(disk.New(16+o.Intn(64), 128+o.Intn(200)))
	if e != api.OK {
		return
	}
	s.Apply(store.Pair{Key: o.text(), Value: o.text(), Gone: o.Intn(2) == 0}, store.Pair{Key: "c/" + o.text(), Value: o.text()}, store.Pair{Key: "t/" + o.text(), Value: o.text()}, store.Pair{Key: "x/epoch", Value: o.text()}, store.Pair{Key: "x/holder", Value: o.text()}, store.Pair{Key: "s/manifest", Value: o.text()})
	cache.New(s).Keys()
	state.Load(s)
	state.Save(s, o.text(), o.text(), o.files(), store.Pair{Key: "x/" + o.text()})
	l, e := latch.Open(s)
	if e != api.OK {
		return
	}
	l.Leave(o.number())
	l.Holder()
	p := proc.New(o.number(), o.cmd())
	for range 100 {
		p.Step(s, l, n)
	}
}

func TestP40_9AnyArguments(t *testing.T) {
	o := odd{rand.New(rand.NewSource(6))}
	for range 4000 {
		o.texts()
		o.packages()
		o.things()
	}
}
