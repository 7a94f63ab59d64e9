package audit_test

import (
	"errors"
	"slices"
	"strings"
	"testing"

	"haversack/api"
	"haversack/audit"
	"haversack/cmd"
	"haversack/fault"
	"haversack/sample"
	"haversack/sha"
)

// lived: a project that needs app and log, and the registry.
func lived(t *testing.T) (api.State, []api.Row) {
	t.Helper()
	rows, archives := sample.Registry(sample.Life()...)
	var w cmd.World
	for _, c := range []api.Cmd{{Kind: api.CmdInit, Name: "me", Text: "0.1.0-x"}, {Kind: api.CmdAdd, Name: "app", Text: "*"}, {Kind: api.CmdAdd, Name: "log", Text: "1.0.0"}} {
		var err error
		if w, err = cmd.Do(w, cmd.Env{Rows: rows, Archives: archives}, c); err != nil {
			t.Fatal(err)
		}
	}
	return w.S, rows
}

// check asks for the faults' texts, one behind another.
func check(t *testing.T, what string, st api.State, rows []api.Row, want ...string) {
	t.Helper()
	err := audit.Check(st, rows)
	if len(want) == 0 {
		if err != nil {
			t.Errorf("%s: %v", what, err)
		}
		return
	}
	if fault.Text(err) != strings.Join(want, "\n") {
		t.Errorf("%s: %q, not %q", what, fault.Text(err), want)
	}
	var f *fault.Fault
	if !errors.As(err, &f) || f.Op != "audit" {
		t.Errorf("%s: no Fault of audit's", what)
	}
}

func TestP29_1Check(t *testing.T) {
	st, rows := lived(t)
	check(t, "a new state", api.State{}, rows)
	check(t, "a cache alone", api.State{Cache: []api.Key{{1}}}, nil)
	check(t, "all well", st, rows)
	for what, c := range map[string]struct {
		change func(st *api.State)
		rows   []api.Row
		want   []string
	}{
		"no manifest, but a tree": {func(st *api.State) { *st = api.State{Tree: st.Tree} }, rows, []string{"audit manifest: err 62", "audit lock: err 63", "audit tree: err 83"}},
		"no manifest, but a lock": {func(st *api.State) { st.Manifest = "" }, rows, []string{"audit manifest: err 62", "audit tree: err 83"}},
		"no lock":                 {func(st *api.State) { st.Lock = "" }, rows, []string{"audit lock: err 63", "audit tree: err 83"}},
		"neither can be read":     {func(st *api.State) { st.Manifest, st.Lock = "x", "y" }, rows, []string{"audit manifest: err 62", "audit lock: err 63", "audit tree: err 83"}},
		"unmet needs":             {func(st *api.State) { st.Manifest += "need zip *\nneed bad *\n" }, rows, []string{"audit bad: err 83", "audit zip: err 83", "audit tree: err 83"}},
		"a need of another one":   {func(st *api.State) { st.Manifest = strings.Replace(st.Manifest, "app *", "app 1.0.0", 1) }, rows, []string{"audit app: err 83", "audit tree: err 83"}},
		"no rows":                 {func(*api.State) {}, nil, []string{"audit app: err 76", "audit lib: err 76", "audit log: err 76"}},
		"another sum":             {func(st *api.State) { st.Lock = strings.Replace(st.Lock, sha.Hex(rows[4].Sum), sha.Hex(api.Key{}), 1) }, rows[:5], []string{"audit lib: err 74", "audit log: err 76"}},
		"a stray file":            {func(st *api.State) { st.Tree = append(st.Tree, sample.File("zip", "")) }, rows, []string{"audit tree: err 83"}},
		"all at once": {func(st *api.State) {
			st.Manifest += "need zip *\n"
			st.Tree = append(st.Tree, sample.File("q", ""))
		}, rows[:2], []string{"audit zip: err 83", "audit lib: err 76", "audit log: err 76", "audit tree: err 83"}},
	} {
		x := st
		x.Tree = slices.Clone(st.Tree)
		c.change(&x)
		check(t, what, x, c.rows, c.want...)
	}
	if err := audit.Check(api.State{Manifest: st.Manifest}, rows); !fault.Is(err, api.ErrLock) || !fault.Is(err, api.ErrDrift) || fault.Is(err, api.ErrManifest) || fault.Code(err) != api.ErrLock {
		t.Errorf("%v", err)
	}
}

func TestP29_2Report(t *testing.T) {
	st, rows := lived(t)
	want := "me 0.1.0-x\napp 2.0.0 needed by me\nlib 2.0.0 needed by app\nlog 1.0.0 needed by me, app, lib\n"
	if got := audit.Report(st, rows); got != want {
		t.Errorf("%q", got)
	}
	if got := audit.Report(st, nil); got != "me 0.1.0-x\napp 2.0.0 needed by me\nlib 2.0.0\nlog 1.0.0 needed by me\n" {
		t.Errorf("%q", got)
	}
	if got := audit.Report(api.State{Manifest: "name p\nversion 1.0.0\n", Lock: "lock 1\n"}, rows); got != "p 1.0.0\n" {
		t.Errorf("%q", got)
	}
	for _, x := range []api.State{{}, {Lock: st.Lock}, {Manifest: st.Manifest}, {Manifest: "x", Lock: st.Lock}, {Manifest: st.Manifest, Lock: "x"}} {
		if got := audit.Report(x, rows); got != "no project\n" {
			t.Errorf("%q", got)
		}
	}
}

func TestP29_2Outdated(t *testing.T) {
	pin := func(name, v string) string { return name + " " + v + " " + sha.Hex(api.Key{}) + "\n" }
	_, rows := lived(t)
	for lock, want := range map[string]string{
		"lock 1\n" + pin("app", "1.0.0") + pin("lib", "1.5.0") + pin("log", "1.0.0"): "app lib", "lock 1\n" + pin("app", "2.0.0") + pin("lib", "2.0.0-x"): "lib", "lock 1\n" + pin("log", "1.0.0-a") + pin("zip", "0.0.1"): "log", "lock 1\n" + pin("app", "9.0.0"): "",
		"": "", "x": "", "lock 1\n": "",
	} {
		if got := audit.Outdated(api.State{Lock: lock}, rows); strings.Join(got, " ") != want {
			t.Errorf("%q: %q", lock, got)
		}
	}
}

func TestP29_3WhatACommandLeftIsWorthAll(t *testing.T) {
	rows, archives := sample.Registry(sample.Life()...)
	e := cmd.Env{Rows: rows, Archives: archives}
	var w cmd.World
	x := uint32(1)
	pick := func(n int) int {
		x = x*1664525 + 1013904223
		return int(x >> 8 % uint32(n))
	}
	for range 300 {
		w, _ = cmd.Do(w, e, api.Cmd{Kind: pick(8), Name: []string{"app", "lib", "log", "bad", "odd", "me", "zip"}[pick(7)], Text: []string{"*", "^1.0.0", "1.0.0", "2.0.0", "x"}[pick(5)]})
		if err := audit.Check(w.S, rows); err != nil {
			t.Fatalf("%v: %v", w.S, err)
		}
	}
}
