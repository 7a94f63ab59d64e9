package state_test

import (
	"fmt"
	"math/rand"
	"slices"
	"strings"
	"testing"

	"haversack/api"
	"haversack/archive"
	"haversack/cache"
	"haversack/disk"
	"haversack/sha"
	"haversack/state"
	"haversack/store"
)

func made(t *testing.T, sectors, size int) (*store.Store, *disk.Disk) {
	t.Helper()
	d := disk.New(sectors, size)
	s, e := store.Open(d)
	if e != api.OK {
		t.Fatal(e)
	}
	return s, d
}

func reopened(t *testing.T, d *disk.Disk) *store.Store {
	t.Helper()
	d.Crash(0, -1, 0)
	s, e := store.Open(d)
	if e != api.OK {
		t.Fatal(e)
	}
	return s
}

func file(p, b string) api.File { return api.File{Path: p, B: []byte(b)} }
func dir(p string) api.File     { return api.File{Path: p, Dir: true} }

func TestP22_1LoadSave(t *testing.T) {
	s, d := made(t, 128, 512)
	if !state.Same(state.Load(s), api.State{}) {
		t.Errorf("a new store: %v", state.Load(s))
	}
	files := []api.File{dir("a"), file("a/x", "1"), file("b", ""), dir("a-b"), dir("d"), file("d/d", "d")}
	sorted := slices.Clone(files)
	slices.SortFunc(sorted, func(a, b api.File) int { return strings.Compare(a.Path, b.Path) })
	for range 2 {
		if e := state.Save(s, "manifest", "lock", files); e != api.OK {
			t.Fatal(e)
		}
		k, _ := cache.New(s).Put([]byte("archive"))
		want := api.State{Manifest: "manifest", Lock: "lock", Cache: []api.Key{k}, Tree: sorted}
		if !state.Same(state.Load(s), want) || !state.Same(state.Load(reopened(t, d)), want) {
			t.Errorf("%v", state.Load(s))
		}
		s = reopened(t, d)
	}
	files = []api.File{file("a", "now a file"), dir("b"), file("b/c", "2")}
	if e := state.Save(s, "", "other", files); e != api.OK {
		t.Fatal(e)
	}
	if want := (api.State{Lock: "other", Cache: state.Load(s).Cache, Tree: files}); !state.Same(state.Load(s), want) {
		t.Errorf("%v", state.Load(s))
	}
	state.Load(s).Tree[0].B[0] = '?'
	if string(state.Load(s).Tree[0].B) != "now a file" {
		t.Error("what was answered is kept")
	}
	if e := state.Save(s, "", "", nil); e != api.OK || len(state.Load(s).Tree) != 0 {
		t.Error("nothing")
	}
}

func TestP22_1More(t *testing.T) {
	s, d := made(t, 64, 512)
	s.Apply(store.Pair{Key: "x/old", Value: "1"})
	if e := state.Save(s, "m", "l", nil, store.Pair{Key: "x/new", Value: "2"}, store.Pair{Key: "x/old", Gone: true}); e != api.OK {
		t.Fatal(e)
	}
	s = reopened(t, d)
	if got := s.Keys("x/"); !slices.Equal(got, []string{"x/new"}) {
		t.Errorf("%q", got)
	}
	if state.Load(s).Manifest != "m" {
		t.Error("not saved")
	}
}

func TestP22_1AllAtOnce(t *testing.T) {
	for n := range 20 {
		s, d := made(t, 64, 512)
		old := api.State{Manifest: "m", Lock: "l", Tree: []api.File{dir("a"), file("a/x", "1"), file("b", "2")}}
		now := api.State{Manifest: "m2", Lock: "l2", Tree: []api.File{file("a", "3"), file("c", "2")}}
		state.Save(s, old.Manifest, old.Lock, old.Tree)
		d.Cut(n)
		e := state.Save(s, now.Manifest, now.Lock, now.Tree, store.Pair{Key: "x/k", Value: "v"})
		for _, keep := range []uint64{0, 1, 5, ^uint64(0)} {
			c := d.Copy()
			c.Crash(keep, n%3-1, n*20)
			s, _ := store.Open(c)
			got := state.Load(s)
			_, more := s.Get("x/k")
			if !(state.Same(got, old) && !more) && !(state.Same(got, now) && more) || e == api.OK && !more {
				t.Fatalf("cut at %d: %v %v", n, got, more)
			}
		}
	}
}

func TestP22_1Refused(t *testing.T) {
	s, d := made(t, 4096, 1024)
	want := api.State{Manifest: "m", Lock: "l", Tree: []api.File{file("a", "1")}}
	state.Save(s, want.Manifest, want.Lock, want.Tree)
	var most []api.File
	for i := range 15 {
		most = append(most, file(fmt.Sprintf("f%02d", i), strings.Repeat("x", api.MaxFile)))
	}
	most = append(most, file("last", ""))
	most[15].B = make([]byte, api.MaxRecord-256-len(archive.Pack(most)))
	for what, l := range map[string][]api.File{
		"twice": {file("a", ""), file("a", "")}, "a wrong path": {file("a*", "")}, "out": {file("../a", "")}, "too long": {{Path: "a", B: make([]byte, api.MaxFile+1)}}, "a byte more": append(slices.Clone(most[:15]), api.File{Path: "last", B: append(slices.Clone(most[15].B), 1)}), "below a file": {file("a", ""), file("a/b", "")},
	} {
		if e := state.Save(s, "m2", "l2", l, store.Pair{Key: "x/k"}); e != api.ErrSpace {
			t.Errorf("%s: %v", what, e)
		}
	}
	if len(s.Keys("x/")) != 0 || !state.Same(state.Load(s), want) {
		t.Error("something is saved")
	}
	if e := state.Save(s, "m", "l", most); e != api.OK || !state.Same(state.Load(s), api.State{Manifest: "m", Lock: "l", Tree: most}) {
		t.Errorf("as much as may be: %v", e)
	}
	if e := state.Save(s, strings.Repeat("m", api.MaxRecord), "l", nil); e != api.ErrRecord {
		t.Errorf("%v", e)
	}
	d.Cut(0)
	if e := state.Save(s, "m", "l", nil); e != api.ErrDiskDead {
		t.Errorf("%v", e)
	}
	if e := state.Save(s, "m", "l", []api.File{file("a*", "")}); e != api.ErrDiskDead {
		t.Errorf("the store's error comes first: %v", e)
	}
	small, _ := made(t, 16, 128)
	if e := state.Save(small, strings.Repeat("m", 3000), "l", nil); e != api.ErrFull {
		t.Errorf("%v", e)
	}
}

func TestP22_2Same(t *testing.T) {
	base := func() api.State {
		return api.State{Manifest: "m", Lock: "l", Cache: []api.Key{{1}, {2}}, Tree: []api.File{dir("a"), file("b", "x")}}
	}
	if !state.Same(base(), base()) || !state.Same(api.State{}, api.State{Cache: []api.Key{}, Tree: []api.File{}}) || !state.Same(api.State{Tree: []api.File{file("a", "")}}, api.State{Tree: []api.File{{Path: "a"}}}) {
		t.Error("not alike")
	}
	for what, change := range map[string]func(*api.State){
		"manifest": func(s *api.State) { s.Manifest = "n" }, "lock": func(s *api.State) { s.Lock = "" }, "a sum": func(s *api.State) { s.Cache[1][31] = 1 }, "fewer sums": func(s *api.State) { s.Cache = s.Cache[:1] }, "order of sums": func(s *api.State) { slices.Reverse(s.Cache) },
		"a path": func(s *api.State) { s.Tree[0].Path = "c" }, "a kind": func(s *api.State) { s.Tree[0].Dir = false }, "bytes": func(s *api.State) { s.Tree[1].B = nil }, "a directory's bytes": func(s *api.State) { s.Tree[0].B = []byte{1} }, "fewer files": func(s *api.State) { s.Tree = s.Tree[:1] }, "order of files": func(s *api.State) { slices.Reverse(s.Tree) },
	} {
		x := base()
		change(&x)
		if state.Same(base(), x) || state.Same(x, base()) {
			t.Error(what)
		}
	}
}

func TestP22_2Held(t *testing.T) {
	sum := sha.Hex(api.Key{})
	m := "name p\nversion 1.0.0\nneed a ^1.0.0\nneed b *\n"
	l := "lock 1\na 1.5.0 " + sum + "\na-b 1.0.0 " + sum + "\nb 2.0.0 " + sum + "\n"
	for _, c := range []struct {
		what, m, l string
		tree       []api.File
		want       bool
	}{
		{"nothing", "", "", nil, true}, {"a tree alone", "", "", []api.File{dir("a")}, false}, {"no lock", m, "", nil, false}, {"no manifest", "", l, nil, false}, {"an empty lock", "name p\nversion 1.0.0\n", "lock 1\n", nil, true},
		{"all", m, l, []api.File{dir("a"), file("a/x", "1"), dir("a-b"), dir("b")}, true}, {"no tree", m, l, nil, true}, {"below a name", m, l, []api.File{file("a/x/y", "")}, true}, {"a file by that name", m, l, []api.File{file("a", "")}, true},
		{"a stray path", m, l, []api.File{dir("a"), dir("c")}, false}, {"a name that goes on", m, l, []api.File{dir("a-c")}, false}, {"a path that isn't clean", m, l, []api.File{dir("a/../c")}, true}, {"the root", m, l, []api.File{dir("")}, false},
		{"a bad manifest", "x" + m, l, nil, false}, {"a bad lock", m, l + "x", nil, false}, {"an unmet need", m, strings.Replace(l, "1.5.0", "2.5.0", 1), nil, false}, {"no pin", m, "lock 1\na 1.5.0 " + sum + "\n", nil, false}, {"more pins", "name p\nversion 1.0.0\n", l, nil, true}, {"a tree, no pins", "name p\nversion 1.0.0\n", "lock 1\n", []api.File{dir("a")}, false},
	} {
		if got := state.Held(api.State{Manifest: c.m, Lock: c.l, Tree: c.tree, Cache: []api.Key{{9}}}); got != c.want {
			t.Errorf("%s: %v", c.what, got)
		}
	}
}

func TestP22_3WhatWasSavedIsLoaded(t *testing.T) {
	s, d := made(t, 512, 512)
	rnd := rand.New(rand.NewSource(1))
	for range 60 {
		want := api.State{Manifest: fmt.Sprint("m", rnd.Intn(9)), Lock: strings.Repeat("l", rnd.Intn(9))}
		for i := range 10 {
			if n := rnd.Intn(4); n > 0 {
				want.Tree = append(want.Tree, api.File{Path: fmt.Sprint("p", i), Dir: n == 1, B: []byte(strings.Repeat("\xff", n*rnd.Intn(50)))})
				if n == 1 {
					want.Tree[len(want.Tree)-1].B = nil
				}
			}
		}
		if e := state.Save(s, want.Manifest, want.Lock, want.Tree); e != api.OK {
			t.Fatal(e)
		}
		s = reopened(t, d)
		if !state.Same(state.Load(s), want) {
			t.Fatalf("%v, not %v", state.Load(s), want)
		}
	}
}
