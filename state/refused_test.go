package state_test

import (
	"fmt"
	"math/rand"
	"slices"
	"strings"
	"testing"

	"haversack/api"
	"haversack/archive"
	"haversack/disk"
	"haversack/state"
	"haversack/store"
)

// refusals: lists of files that Save refuses, each for another reason.
func refusals() map[string][]api.File {
	var big, many, packed []api.File
	for i := range 17 {
		big = append(big, file(fmt.Sprintf("f%02d", i), strings.Repeat("x", api.MaxFile)))
	}
	for i := range api.MaxFiles + 1 {
		many = append(many, dir(fmt.Sprintf("d%03d", i)))
	}
	packed = append(slices.Clone(big[:15]), file("last", ""))
	packed[15].B = make([]byte, api.MaxRecord-256-len(archive.Pack(packed))+1)
	return map[string][]api.File{
		"out": {file("../a", "")}, "a wrong path": {file("a*", "")}, "twice": {file("a", ""), file("a", "")},
		"below a file": {file("a", ""), file("a/b", "")}, "a long file": {{Path: "a", B: make([]byte, api.MaxRecord+1)}},
		"a big tree": big, "many files": many, "a long pack": packed,
	}
}

// all: what a store tells.
func all(s *store.Store) string {
	out := fmt.Sprint(s.Size(), s.Down())
	for _, k := range s.Keys("") {
		v, _ := s.Get(k)
		out += fmt.Sprintf(" %q=%q", k, v)
	}
	return out
}

// withSome: a store that has something already.
func withSome(t *testing.T, sectors, size int) (*store.Store, *disk.Disk) {
	t.Helper()
	s, d := made(t, sectors, size)
	if e := state.Save(s, "m", "l", []api.File{file("a", "1"), dir("b")}, store.Pair{Key: "x/k", Value: "1"}); e != api.OK {
		t.Fatal(e)
	}
	return s, d
}

func TestP22_1ARecordTooLongIsToldAheadOfRefusedFiles(t *testing.T) {
	most := strings.Repeat("v", api.MaxRecord-64-len("x/k"))
	long := strings.Repeat("v", api.MaxRecord)
	for what, files := range refusals() {
		s, d := withSome(t, 400, 512)
		before := all(s)
		d.Cut(0) // too long is told ahead of the disk's error, too: nothing is tried
		for _, c := range []struct {
			which, manifest, lock string
			more                  []store.Pair
		}{
			{"manifest", long, "k", nil}, {"lock", "n", long, nil},
			{"value", "n", "k", []store.Pair{{Key: "x/k", Value: long}}}, {"a byte more", "n", "k", []store.Pair{{Key: "x/k", Value: most + "v"}}},
			{"key", "n", "k", []store.Pair{{Key: "x/" + long}}}, {"key that goes", "n", "k", []store.Pair{{Key: "x/" + long, Gone: true}}},
			{"the second one", "n", "k", []store.Pair{{Key: "x/k", Value: "2"}, {Key: "x/l", Value: long}}},
			{"one that another follows", "n", "k", []store.Pair{{Key: "x/k", Value: long}, {Key: "x/k", Gone: true}}},
		} {
			if e := state.Save(s, c.manifest, c.lock, files, c.more...); e != api.ErrRecord {
				t.Errorf("%s, %s: %v", what, c.which, e)
			}
		}
		if all(s) != before || d.Dead() {
			t.Errorf("%s: something changed", what)
		}
	}
	s, _ := withSome(t, 4096, 4096)
	before := all(s)
	if e := state.Save(s, "n", "k", []api.File{file("../a", "")}, store.Pair{Key: "x/k", Value: most}); e != api.ErrSpace || all(s) != before {
		t.Errorf("as long as may be: %v", e)
	}
}

func TestP22_1NoRoomIsToldAheadOfRefusedFiles(t *testing.T) {
	long := strings.Repeat("v", 3000) // the disk has 2048 bytes
	for what, files := range refusals() {
		s, d := withSome(t, 16, 128)
		before := all(s)
		for _, e := range []api.Errno{
			state.Save(s, long, "l", files), state.Save(s, "m", long, files), state.Save(s, "m", "l", files, store.Pair{Key: "x/k", Value: long}),
			state.Save(s, "m", "l", files, store.Pair{Key: "x/1", Value: long[:1100]}, store.Pair{Key: "x/2", Value: long[:1100]}),
		} {
			if e != api.ErrFull {
				t.Errorf("%s: %v", what, e)
			}
		}
		if e := state.Save(s, "n", "k", files, store.Pair{Key: "x/k", Value: long}, store.Pair{Key: "x/k", Value: "2"}); e != api.ErrSpace {
			t.Errorf("%s, what another follows takes no room: %v", what, e)
		}
		if e := state.Save(s, long[:300], "k", files); e != api.ErrSpace {
			t.Errorf("%s, with room: %v", what, e)
		}
		if all(s) != before || all(reopened(t, d)) != before {
			t.Errorf("%s: something changed", what)
		}
	}
	d := disk.New(4096, 4096) // of 2^24 bytes
	s, _ := store.Open(d)
	value := strings.Repeat("v", api.MaxRecord-100)
	var more []store.Pair
	for i := range 17 {
		more = append(more, store.Pair{Key: fmt.Sprint("x/", i), Value: value})
	}
	if e := state.Save(s, "m", "l", []api.File{file("../a", "")}, more...); e != api.ErrFull || s.Size() != 0 {
		t.Errorf("many: %v", e)
	}
	if e := state.Save(s, "m", "l", []api.File{file("../a", "")}, more[:5]...); e != api.ErrSpace || s.Size() != 0 {
		t.Errorf("some: %v", e)
	}
}

// What has room with no files is refused for the files alone; what has none, by far, for the room.
func TestP22_1RefusedFilesTakeNoRoom(t *testing.T) {
	rnd := rand.New(rand.NewSource(3))
	text := func(n int) string { return strings.Repeat("t", rnd.Intn(n)) }
	told := map[api.Errno]int{}
	for range 400 {
		s, d := made(t, 16+rnd.Intn(8), 128)
		for range rnd.Intn(4) {
			state.Save(s, text(300), text(300), []api.File{file("a", text(300))}, store.Pair{Key: "x/k", Value: text(300)}, store.Pair{Key: "x/l", Value: text(99), Gone: rnd.Intn(2) == 0})
		}
		before := all(s)
		manifest, lock := text(700), text(700)
		more := []store.Pair{{Key: "x/k", Value: text(300), Gone: rnd.Intn(2) == 0}, {Key: "x/m", Value: text(300)}}
		c, _ := store.Open(d.Copy())
		want := api.ErrSpace
		if state.Save(c, manifest, lock, nil, more...) == api.ErrFull {
			want = api.ErrFull
			more = append(more, store.Pair{Key: "x/far", Value: strings.Repeat("r", 400)})
		}
		got := state.Save(s, manifest, lock, []api.File{file("a*", "")}, more...)
		if got != want || all(s) != before {
			t.Fatalf("%v, not %v; from %d bytes to %d", got, want, len(before), len(all(s)))
		}
		told[got]++
	}
	if told[api.ErrSpace] < 50 || told[api.ErrFull] < 50 {
		t.Errorf("%v", told)
	}
}

func TestP22_1NoPowerIsToldAheadOfRefusedFiles(t *testing.T) {
	for what, files := range refusals() {
		s, d := withSome(t, 400, 512)
		before := state.Load(s)
		d.Cut(0)
		if e := state.Save(s, "n", "k", files); e != api.ErrDiskDead || !s.Down() {
			t.Errorf("%s, no power: %v", what, e)
		}
		if e := state.Save(s, "n", "k", files, store.Pair{Key: "x/k", Value: strings.Repeat("v", api.MaxRecord)}); e != api.ErrDiskDead {
			t.Errorf("%s, down: %v", what, e)
		}
		if !state.Same(state.Load(s), before) || !state.Same(state.Load(reopened(t, d)), before) {
			t.Errorf("%s: something is saved", what)
		}
		s, d = withSome(t, 400, 512)
		d.Cut(0)
		d.Flush()
		if e := state.Save(s, "n", "k", files); !d.Dead() || e != api.ErrDiskDead {
			t.Errorf("%s, a dead disk: %v", what, e)
		}
	}
}

func TestP22_1ACrashInARefusedSave(t *testing.T) {
	refused := []api.File{file("../a", "")}
	now := api.State{Manifest: "m2", Lock: "l2", Tree: []api.File{file("c", "2")}}
	for n := range 40 {
		s, d := withSome(t, 64, 512)
		want := state.Load(s)
		clean, _ := withSome(t, 64, 512)
		state.Save(clean, now.Manifest, now.Lock, now.Tree)
		d.Cut(n)
		e := state.Save(s, strings.Repeat("n", 2000), "k", refused, store.Pair{Key: "x/k", Value: "2"})
		if e != api.ErrDiskDead && e != api.ErrSpace {
			t.Fatalf("cut at %d: %v", n, e)
		}
		for _, keep := range []uint64{0, 1, 6, ^uint64(0)} {
			c := d.Copy()
			c.Crash(keep, n%3-1, n*20)
			x, _ := store.Open(c)
			if v, _ := x.Get("x/k"); v != "1" || !state.Same(state.Load(x), want) || !slices.Equal(x.Keys("x/"), []string{"x/k"}) {
				t.Fatalf("cut at %d: something is saved", n)
			}
			for _, how := range []string{"refused", "saved"} { // nothing is left of it behind the next one
				y, _ := store.Open(c.Copy())
				if how == "refused" {
					state.Save(y, strings.Repeat("n", 300), "k", refused)
				}
				if e := state.Save(y, now.Manifest, now.Lock, now.Tree); e != api.OK || all(y) != all(clean) {
					t.Fatalf("cut at %d, %s: %v", n, how, e)
				}
			}
		}
		if e == api.ErrSpace {
			return
		}
	}
	t.Error("never told ErrSpace")
}
