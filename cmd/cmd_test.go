package cmd_test

import (
	"bytes"
	"errors"
	"maps"
	"slices"
	"strings"
	"testing"

	"haversack/api"
	"haversack/archive"
	"haversack/cmd"
	"haversack/fault"
	"haversack/lockfile"
	"haversack/sample"
	"haversack/sha"
	"haversack/state"
)

func env() cmd.Env {
	rows, archives := sample.Registry(sample.Life()...)
	return cmd.Env{Rows: rows, Archives: archives}
}

func c(kind int, name, text string) api.Cmd { return api.Cmd{Kind: kind, Name: name, Text: text} }

// do does commands that go well.
func do(t *testing.T, w cmd.World, e cmd.Env, l ...api.Cmd) cmd.World {
	t.Helper()
	for _, x := range l {
		var err error
		if w, err = cmd.Do(w, e, x); err != nil {
			t.Fatalf("%v: %v", x, err)
		}
		sound(t, w)
	}
	return w
}

func TestP26_2WhatIsCachedIsNotFetched(t *testing.T) {
	e := env()
	w := do(t, cmd.World{}, e, c(api.CmdInit, "me", "0.1.0"), c(api.CmdAdd, "app", "1.0.0"))
	x := do(t, w, cmd.Env{Rows: e.Rows}, c(api.CmdInstall, "", ""), c(api.CmdUpdate, "", ""))
	if !same(x, w) {
		t.Error("installed otherwise")
	}
}

// sound: whether the cache's sums are in order, and those of its bytes.
func sound(t *testing.T, w cmd.World) {
	t.Helper()
	if len(w.Bytes) != len(w.S.Cache) || !slices.IsSortedFunc(w.S.Cache, func(a, b api.Key) int { return bytes.Compare(a[:], b[:]) }) {
		t.Errorf("%d cached, %d bytes", len(w.S.Cache), len(w.Bytes))
	}
	for _, k := range w.S.Cache {
		if b, ok := w.Bytes[k]; !ok || sha.Sum(b) != k {
			t.Errorf("bytes of %v", k)
		}
	}
}

func same(a, b cmd.World) bool {
	return state.Same(a.S, b.S) && maps.EqualFunc(a.Bytes, b.Bytes, bytes.Equal)
}

func told(t *testing.T, what string, err error, op, name string, e api.Errno) {
	t.Helper()
	var f *fault.Fault
	if !errors.As(err, &f) || f != err || f.Op != op || f.Name != name || fault.Code(err) != e {
		t.Errorf("%s: %v, not %s %s %v", what, err, op, name, e)
	}
}

func pinned(t *testing.T, w cmd.World) string {
	t.Helper()
	l, _, e := lockfile.Parse(w.S.Lock)
	if e != api.OK {
		t.Fatal(e)
	}
	var out []string
	for _, p := range l {
		out = append(out, p.Name+strings.Repeat("'", p.V.Major))
	}
	return strings.Join(out, " ")
}

func files(w cmd.World) string {
	var out []string
	for _, f := range w.S.Tree {
		if !f.Dir {
			out = append(out, f.Path)
		}
	}
	return strings.Join(out, " ")
}

func TestP26_1Archive(t *testing.T) {
	e := env()
	pin := func(i int) api.Pin { return api.Pin{Name: e.Rows[i].Name, V: e.Rows[i].V, Sum: e.Rows[i].Sum} }
	for i := range e.Rows {
		b, err := cmd.Archive(e, pin(i))
		if err != nil || !bytes.Equal(b, e.Archives[i]) {
			t.Errorf("row %d: %v", i, err)
		}
		b[0] = '?'
	}
	if e.Archives[0][0] == '?' {
		t.Error("what is answered shares memory")
	}
	for what, change := range map[string]func(e *cmd.Env, p *api.Pin) api.Errno{
		"no such name":            func(e *cmd.Env, p *api.Pin) api.Errno { p.Name = "z"; return api.ErrMissing },
		"no such version":         func(e *cmd.Env, p *api.Pin) api.Errno { p.V.Major = 9; return api.ErrMissing },
		"no archive":              func(e *cmd.Env, p *api.Pin) api.Errno { e.Archives = e.Archives[:1]; return api.ErrMissing },
		"no archive, another sum": func(e *cmd.Env, p *api.Pin) api.Errno { e.Archives = e.Archives[:1]; p.Sum[0]++; return api.ErrMissing },
		"another sum":             func(e *cmd.Env, p *api.Pin) api.Errno { p.Sum[0]++; return api.ErrDigest },
		"another sum, and short": func(e *cmd.Env, p *api.Pin) api.Errno {
			p.Sum[0]++
			e.Archives[1] = nil
			return api.ErrDigest
		},
		"other bytes": func(e *cmd.Env, p *api.Pin) api.Errno { e.Archives[1][9]++; return api.ErrDigest },
		"fewer bytes": func(e *cmd.Env, p *api.Pin) api.Errno {
			e.Archives[1] = e.Archives[1][1:]
			return api.ErrNetwork
		},
		"a greater size": func(e *cmd.Env, p *api.Pin) api.Errno { e.Rows[1].Size++; return api.ErrNetwork },
		"a lesser size":  func(e *cmd.Env, p *api.Pin) api.Errno { e.Rows[1].Size--; return api.ErrDigest },
		"a size below 0": func(e *cmd.Env, p *api.Pin) api.Errno { e.Rows[1].Size = -4; return api.ErrDigest },
	} {
		e := env()
		p := pin(1)
		want := change(&e, &p)
		b, err := cmd.Archive(e, p)
		told(t, what, err, "fetch", p.Name, want)
		if b != nil {
			t.Errorf("%s: bytes beside an error", what)
		}
	}
	e = env()
	e.Archives[1] = append(e.Archives[1], "more"...)
	if b, err := cmd.Archive(e, pin(1)); err != nil || sha.Sum(b) != pin(1).Sum {
		t.Errorf("more bytes: %v", err)
	}
	none := cmd.Env{Rows: []api.Row{{Name: "n", Size: -3, Sum: sha.Sum()}}, Archives: [][]byte{[]byte("x")}}
	if b, err := cmd.Archive(none, api.Pin{Name: "n", Sum: sha.Sum()}); err != nil || len(b) != 0 {
		t.Errorf("of a size below 0 whose sum is that of nothing: %v", err)
	}
}

func TestP26_2Life(t *testing.T) {
	e := env()
	w := do(t, cmd.World{}, e, c(api.CmdInit, "me", "0.1.0"))
	if w.S.Manifest != "name me\nversion 0.1.0\n" || w.S.Lock != "lock 1\n" || len(w.S.Tree) != 0 {
		t.Errorf("%v", w.S)
	}
	w = do(t, w, e, c(api.CmdAdd, "app", "^1.0.0"))
	if pinned(t, w) != "app' lib'" || files(w) != "app/main app/version lib/out/code lib/out/log lib/src/code" || len(w.S.Cache) != 2 {
		t.Errorf("%s: %s", pinned(t, w), files(w))
	}
	w = do(t, w, e, c(api.CmdVerify, "", ""), c(api.CmdInstall, "", ""), c(api.CmdAdd, "app", "*"))
	if pinned(t, w) != "app'' lib'' log'" || len(w.S.Cache) != 5 {
		t.Errorf("%s, %d cached", pinned(t, w), len(w.S.Cache))
	}
	before := w
	w = do(t, w, e, c(api.CmdSweep, "", ""))
	if len(w.S.Cache) != 3 || w.S.Manifest != before.S.Manifest || w.S.Lock != before.S.Lock || files(w) != files(before) {
		t.Errorf("swept: %d cached", len(w.S.Cache))
	}
	w = do(t, w, e, c(api.CmdVerify, "", ""), c(api.CmdRemove, "app", ""), c(api.CmdUpdate, "", ""))
	if pinned(t, w) != "" || files(w) != "" || len(w.S.Cache) != 3 {
		t.Errorf("%s: %s", pinned(t, w), files(w))
	}
	w = do(t, w, e, c(api.CmdSweep, "", ""))
	if len(w.S.Cache) != 0 {
		t.Error("not all is swept")
	}
}

func TestP26_2Verify(t *testing.T) {
	e := env()
	w := do(t, cmd.World{}, e, c(api.CmdInit, "me", "0.1.0"), c(api.CmdAdd, "app", "^1.0.0"))
	for what, change := range map[string]func(w *cmd.World){
		"a byte":               func(w *cmd.World) { w.S.Tree[1].B[0]++ },
		"a file fewer":         func(w *cmd.World) { w.S.Tree = w.S.Tree[:len(w.S.Tree)-1] },
		"a file more":          func(w *cmd.World) { w.S.Tree = append(w.S.Tree, sample.File("z", "")) },
		"a directory's bytes":  func(w *cmd.World) { w.S.Tree[0].B = []byte("x") },
		"a directory's a file": func(w *cmd.World) { w.S.Tree[0].Dir = false },
	} {
		x := do(t, w, e) // the same
		x, _ = cmd.Do(x, e, api.Cmd{Kind: 99})
		change(&x)
		y, err := cmd.Do(x, e, c(api.CmdVerify, "n", ""))
		told(t, what, err, "verify", "", api.ErrDrift)
		if !same(x, y) {
			t.Errorf("%s: verify changes something", what)
		}
	}
	x, _ := cmd.Do(w, e, api.Cmd{Kind: 99})
	clear(x.Bytes)
	x.S.Cache = nil
	_, err := cmd.Do(x, e, c(api.CmdVerify, "n", ""))
	told(t, "what isn't cached", err, "build", "app", api.ErrMissing)
	x.S.Manifest += "need zip *\n"
	_, err = cmd.Do(x, e, c(api.CmdVerify, "n", ""))
	told(t, "plan's error", err, "plan", "n", api.ErrDrift)
	// Install mends what verify tells of.
	x, _ = cmd.Do(w, e, api.Cmd{Kind: 99})
	x.S.Tree = nil
	x = do(t, x, e, c(api.CmdInstall, "", ""), c(api.CmdVerify, "", ""))
	if !same(x, w) {
		t.Error("install mends nothing")
	}
}

func TestP26_3Failures(t *testing.T) {
	e := env()
	w := do(t, cmd.World{}, e, c(api.CmdInit, "me", "0.1.0"), c(api.CmdAdd, "log", "*"))
	for _, x := range []struct {
		what     string
		change   func(e *cmd.Env)
		c        api.Cmd
		op, name string
		e        api.Errno
		cached   int
	}{
		{"plan's error", nil, c(api.CmdAdd, "zip", "*"), "plan", "zip", api.ErrUnsat, 1},
		{"there is one already", nil, c(api.CmdInit, "me", "0.1.0"), "plan", "me", api.ErrInit, 1},
		{"a script that fails", nil, c(api.CmdAdd, "bad", "*"), "build", "bad", api.ErrFailed, 2},
		{"an archive that is short", func(e *cmd.Env) { e.Archives[4] = nil }, c(api.CmdAdd, "app", "2.0.0"), "fetch", "lib", api.ErrNetwork, 2},
		{"no archive", func(e *cmd.Env) { e.Archives = e.Archives[:4] }, c(api.CmdAdd, "app", "2.0.0"), "fetch", "lib", api.ErrMissing, 2},
		{"other bytes", func(e *cmd.Env) { e.Archives[1][5]++ }, c(api.CmdAdd, "app", "2.0.0"), "fetch", "app", api.ErrDigest, 1},
		{"no archive is one", func(e *cmd.Env) {
			e.Archives[3] = []byte("PAK1\x07")
			e.Rows[3].Sum, e.Rows[3].Size = archive.Digest(e.Archives[3]), len(e.Archives[3])
		}, c(api.CmdAdd, "lib", "1.5.0"), "build", "lib", api.ErrArchive, 2},
	} {
		e := env()
		if x.change != nil {
			x.change(&e)
		}
		got, err := cmd.Do(w, e, x.c)
		told(t, x.what, err, x.op, x.name, x.e)
		sound(t, got)
		if len(got.S.Cache) != x.cached {
			t.Errorf("%s: %d cached, not %d", x.what, len(got.S.Cache), x.cached)
		}
		got.S.Cache = w.S.Cache
		if !state.Same(got.S, w.S) {
			t.Errorf("%s: manifest, lockfile or tree changed", x.what)
		}
	}
}

func TestP26_2NothingHandedInChanges(t *testing.T) {
	e := env()
	w := do(t, cmd.World{}, e, c(api.CmdInit, "me", "0.1.0"), c(api.CmdAdd, "app", "1.0.0"))
	kept, _ := cmd.Do(w, e, api.Cmd{Kind: 99})
	kept.S.Cache = slices.Clone(w.S.Cache)
	for kind := range 8 {
		got, _ := cmd.Do(w, e, c(kind, "log", "*"))
		for _, f := range got.S.Tree {
			for i := range f.B {
				f.B[i] = '?'
			}
		}
		for _, b := range got.Bytes {
			b[0] = '?'
		}
		clear(got.Bytes)
		clear(got.S.Cache)
		if !same(w, kept) {
			t.Fatalf("command %d changes what was handed in", kind)
		}
	}
	if again := env(); !slices.EqualFunc(e.Archives, again.Archives, bytes.Equal) {
		t.Error("archives")
	}
}
