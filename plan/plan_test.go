package plan_test

import (
	"errors"
	"reflect"
	"slices"
	"strings"
	"testing"

	"haversack/api"
	"haversack/fault"
	"haversack/index"
	"haversack/lockfile"
	"haversack/plan"
	"haversack/sha"
	"haversack/ver"
)

func sum(s string) api.Key { return sha.Sum([]byte(s)) }

// rows: each word a name and a Major, "b1"; needs behind a colon, "a2:b^1.0.0".
func rows(t *testing.T, s string) []api.Row {
	t.Helper()
	var b strings.Builder
	for _, w := range strings.Fields(s) {
		pack, needs, _ := strings.Cut(w, ":")
		b.WriteString("pack " + pack[:1] + " " + pack[1:] + ".0.0 " + sha.Hex(sum(pack)) + " 1\n")
		for _, n := range strings.Split(needs, ",") {
			if n != "" {
				b.WriteString("need " + n[:1] + " " + n[1:] + "\n")
			}
		}
	}
	l, line, e := index.Parse(b.String())
	if e != api.OK {
		t.Fatalf("%v at %d", e, line)
	}
	return l
}

func pins(s string) []api.Pin {
	var out []api.Pin
	for _, w := range strings.Fields(s) {
		v, _ := ver.Parse(w[1:] + ".0.0")
		out = append(out, api.Pin{Name: w[:1], V: v, Sum: sum(w)})
	}
	return out
}

func lock(s string) string { return lockfile.Text(pins(s)) }

const head = "name p\nversion 1.0.0\n"

func cmd(kind int, name, text string) api.Cmd { return api.Cmd{Kind: kind, Name: name, Text: text} }

func told(t *testing.T, what string, p plan.Plan, err error, name string, e api.Errno) {
	t.Helper()
	var f *fault.Fault
	if !errors.As(err, &f) || f != err || f.Op != "plan" || f.Name != name || f.Err != e || !reflect.DeepEqual(p, plan.Plan{}) {
		t.Errorf("%s: %v, not %v", what, err, e)
	}
}

func same(a, b plan.Plan) bool {
	x, y := a.Pins, b.Pins
	a.Pins, b.Pins = nil, nil
	return reflect.DeepEqual(a, b) && lockfile.Same(x, y)
}

func TestP23_1Init(t *testing.T) {
	p, err := plan.Of(api.State{Lock: "whatever"}, rows(t, "a1"), cmd(api.CmdInit, "p", "1.0.0-x"))
	if err != nil || !same(p, plan.Plan{Manifest: "name p\nversion 1.0.0-x\n", Lock: "lock 1\n", Build: true}) {
		t.Errorf("%v %v", p, err)
	}
	for _, c := range []struct {
		manifest, name, text string
		e                    api.Errno
	}{
		{"x", "P", "x", api.ErrInit}, {"", "P", "x", api.ErrManifest}, {"", "", "1.0.0", api.ErrManifest}, {"", "p", "x", api.ErrVersion}, {"", "p", "", api.ErrVersion}, {head, "p", "1.0.0", api.ErrInit},
	} {
		p, err := plan.Of(api.State{Manifest: c.manifest}, nil, cmd(api.CmdInit, c.name, c.text))
		told(t, c.manifest+c.name+c.text, p, err, c.name, c.e)
	}
}

func TestP23_1Reading(t *testing.T) {
	for kind := -1; kind < 9; kind++ {
		if kind == api.CmdInit {
			continue
		}
		for what, c := range map[string]struct {
			st api.State
			e  api.Errno
		}{
			"no manifest": {api.State{Lock: "x"}, api.ErrInit}, "a bad manifest": {api.State{Manifest: "x", Lock: "x"}, api.ErrManifest}, "a bad lock": {api.State{Manifest: head, Lock: "x"}, api.ErrLock},
		} {
			p, err := plan.Of(c.st, nil, cmd(kind, "n", "x"))
			told(t, what, p, err, "n", c.e)
		}
	}
	for _, kind := range []int{-1, 7, 1 << 40} {
		p, err := plan.Of(api.State{Manifest: head}, nil, cmd(kind, "n", ""))
		told(t, "another kind", p, err, "n", api.ErrCmd)
	}
}

func TestP23_1AddRemoveUpdate(t *testing.T) {
	r := rows(t, "a1 a2:b^1.0.0 a3:z* b1 b2 c1")
	st := api.State{Manifest: "#\n" + head + "need b <=1.0.0\nneed a >=2.0.0\n", Lock: lock("a1")}
	for _, c := range []struct {
		what     string
		c        api.Cmd
		manifest string
		pins     string
	}{
		{"add", cmd(api.CmdAdd, "c", " * "), "need a >=2.0.0\nneed b <=1.0.0\nneed c  * \n", "a2 b1 c1"},
		{"add in the place of one", cmd(api.CmdAdd, "a", "1.0.0"), "need a 1.0.0\nneed b <=1.0.0\n", "a1 b1"},
		{"remove", cmd(api.CmdRemove, "a", "whatever"), "need b <=1.0.0\n", "b1"},
		{"update", cmd(api.CmdUpdate, "x", "whatever"), "need a >=2.0.0\nneed b <=1.0.0\n", "a2 b1"},
	} {
		p, err := plan.Of(st, r, c.c)
		if err != nil || !same(p, plan.Plan{Manifest: head + c.manifest, Lock: lock(c.pins), Pins: pins(c.pins), Build: true}) {
			t.Errorf("%s: %v %v", c.what, p, err)
		}
	}
	if p, err := plan.Of(api.State{Manifest: head + "need a *\n"}, r, cmd(api.CmdRemove, "a", "")); err != nil || !same(p, plan.Plan{Manifest: head, Lock: "lock 1\n", Build: true}) {
		t.Errorf("remove the last: %v %v", p, err)
	}
	for _, c := range []struct {
		c api.Cmd
		e api.Errno
	}{
		{cmd(api.CmdAdd, "p", "x"), api.ErrSpan}, {cmd(api.CmdAdd, "C", "*"), api.ErrManifest}, {cmd(api.CmdAdd, "p", "*"), api.ErrManifest}, {cmd(api.CmdAdd, "", ""), api.ErrSpan}, {cmd(api.CmdAdd, "c", "2.0.0"), api.ErrUnsat}, {cmd(api.CmdAdd, "b", "2.0.0"), api.ErrUnsat}, {cmd(api.CmdAdd, "y", "*"), api.ErrUnsat},
		{cmd(api.CmdRemove, "c", ""), api.ErrNeed}, {cmd(api.CmdRemove, "", ""), api.ErrNeed},
	} {
		p, err := plan.Of(st, r, c.c)
		told(t, c.c.Name+" "+c.c.Text, p, err, c.c.Name, c.e)
	}
	for _, kind := range []int{api.CmdUpdate, api.CmdRemove} {
		p, err := plan.Of(api.State{Manifest: head + "need a 9.0.0\nneed b *\n"}, r, cmd(kind, "b", ""))
		told(t, "nothing fits", p, err, "b", api.ErrUnsat)
	}
}

func TestP23_1InstallVerifySweep(t *testing.T) {
	m := "#\n" + head + "need a *\n"
	l := lock("a1 c1")
	for kind, want := range map[int]plan.Plan{
		api.CmdInstall: {Build: true}, api.CmdVerify: {Check: true}, api.CmdSweep: {Sweep: true},
	} {
		want.Manifest, want.Lock, want.Pins = m, l, pins("a1 c1")
		if p, err := plan.Of(api.State{Manifest: m, Lock: l}, nil, cmd(kind, "n", "t")); err != nil || !same(p, want) {
			t.Errorf("%d: %v %v", kind, p, err)
		}
		want.Manifest, want.Lock, want.Pins = head, "", nil
		if p, err := plan.Of(api.State{Manifest: head}, nil, cmd(kind, "n", "t")); err != nil || !same(p, want) {
			t.Errorf("%d without a lockfile: %v %v", kind, p, err)
		}
		p, err := plan.Of(api.State{Manifest: head + "need a 2.0.0\n", Lock: l}, nil, cmd(kind, "n", "t"))
		if kind == api.CmdVerify {
			told(t, "an unmet need", p, err, "n", api.ErrDrift)
			p, err = plan.Of(api.State{Manifest: m}, nil, cmd(kind, "n", "t"))
			told(t, "no lockfile", p, err, "n", api.ErrDrift)
			p, err = plan.Of(api.State{Manifest: head + "need b *\n", Lock: l}, nil, cmd(kind, "n", "t"))
			told(t, "pins of other names", p, err, "n", api.ErrDrift)
		} else if err != nil {
			t.Errorf("%d: %v", kind, err)
		}
	}
}

func TestP23_2Changes(t *testing.T) {
	other := pins("a1 b2 c1 e1")
	other[2].Sum[0]++
	for _, c := range []struct {
		old, now            []api.Pin
		come, gone, changed string
	}{
		{nil, nil, "", "", ""}, {nil, pins("a1 b1"), "a b", "", ""}, {pins("a1 b1"), nil, "", "a b", ""}, {pins("a1 b1"), pins("a1 b1"), "", "", ""},
		{pins("a1 b1 c1 d1"), other, "e", "d", "b c"}, {pins("b1 d1"), pins("a1 c1 d2 e1"), "a c e", "b", "d"},
	} {
		a, b, d := plan.Changes(c.old, c.now)
		if !slices.Equal(a, strings.Fields(c.come)) || !slices.Equal(b, strings.Fields(c.gone)) || !slices.Equal(d, strings.Fields(c.changed)) {
			t.Errorf("%q %q %q", a, b, d)
		}
	}
}

func TestP23_3NothingElseIsChanged(t *testing.T) {
	r := rows(t, "a1 a2:b^1.0.0 b1")
	st := api.State{Manifest: head + "need a *\n", Lock: lock("a1"), Cache: []api.Key{{1}}, Tree: []api.File{{Path: "a", Dir: true}}}
	kept, keptRows := st, rows(t, "a1 a2:b^1.0.0 b1")
	for kind := range 8 {
		p, _ := plan.Of(st, r, cmd(kind, "b", "*"))
		for i := range p.Pins {
			p.Pins[i].Name = "?"
		}
	}
	if !reflect.DeepEqual(st, kept) || !reflect.DeepEqual(r, keptRows) {
		t.Error("what was handed in is changed")
	}
}
