package store_test

import (
	"fmt"
	"maps"
	"math/rand"
	"slices"
	"strings"
	"testing"

	"haversack/api"
	"haversack/disk"
	"haversack/store"
	"haversack/wal"
)

func open(t *testing.T, d *disk.Disk) *store.Store {
	t.Helper()
	s, e := store.Open(d)
	if e != api.OK {
		t.Fatalf("Open: %v", e)
	}
	return s
}

func ok(t *testing.T, what string, got, want api.Errno) {
	t.Helper()
	if got != want {
		t.Errorf("%s: %v, not %v", what, got, want)
	}
}

// all: what a store tells.
func all(s *store.Store) map[string]string {
	out := map[string]string{}
	for _, k := range s.Keys("") {
		out[k], _ = s.Get(k)
	}
	return out
}

func put(k, v string) store.Pair { return store.Pair{Key: k, Value: v} }
func gone(k string) store.Pair   { return store.Pair{Key: k, Gone: true} }

func TestP5_1Open(t *testing.T) {
	if s, e := store.Open(disk.New(15, 128)); e != api.ErrForm || s != nil {
		t.Error("too few sectors")
	}
	d := disk.New(16, 128)
	d.Cut(0)
	d.Flush()
	if s, e := store.Open(d); e != api.ErrDiskDead || s != nil {
		t.Error("dead")
	}
	for _, r := range []string{"", "hello", "\x00", "\x05store", "\x05store\x01k\x02", "\x05store\x01k\x00\x01vv", "\x05other\x01k\x00\x01v", "\x05store\x01k\x01\x00"} {
		d := disk.New(16, 128)
		l, _, _ := wal.Open(d)
		l.Commit([]byte(r))
		if s, e := store.Open(d); e != api.ErrForm || s != nil {
			t.Errorf("%q: %v", r, e)
		}
	}
	s := open(t, disk.New(16, 128))
	if v, has := s.Get(""); v != "" || has || len(s.Keys("")) != 0 || s.Size() != 0 || s.Down() {
		t.Error("a new one has something")
	}
}

func TestP5_1Apply(t *testing.T) {
	d := disk.New(64, 128)
	s := open(t, d)
	ok(t, "Apply", s.Apply(put("b", "1"), put("ab", "2"), put("a", ""), put("b", "3"), put("c", "4"), gone("c"), gone("none"), put("", "root"), put("b\xff", "x")), api.OK)
	ok(t, "Apply of none", s.Apply(), api.OK)
	for range 2 {
		want := map[string]string{"": "root", "a": "", "ab": "2", "b": "3", "b\xff": "x"}
		if !maps.Equal(all(s), want) {
			t.Errorf("%q", all(s))
		}
		if _, has := s.Get("c"); has {
			t.Error("c is there")
		}
		if v, has := s.Get("a"); v != "" || !has {
			t.Error("an empty value")
		}
		if !slices.Equal(s.Keys("a"), []string{"a", "ab"}) || !slices.Equal(s.Keys("b"), []string{"b", "b\xff"}) || len(s.Keys("c")) != 0 {
			t.Errorf("Keys: %q %q", s.Keys("a"), s.Keys("b"))
		}
		if s.Size() != 0+4+1+2+1+1+1+2+1 {
			t.Errorf("Size: %d", s.Size())
		}
		s = open(t, d)
	}
	ok(t, "Apply", s.Apply(gone("b"), put("b", "again"), gone("")), api.OK)
	d.Crash(0, -1, 0)
	if !maps.Equal(all(open(t, d)), map[string]string{"a": "", "ab": "2", "b": "again", "b\xff": "x"}) {
		t.Error("not sure")
	}
}

func TestP5_1Refused(t *testing.T) {
	d := disk.New(2048, 4096)
	s := open(t, d)
	long := strings.Repeat("x", api.MaxRecord-64)
	ok(t, "the longest", s.Apply(put("", long)), api.OK)
	ok(t, "the longest", s.Apply(put(long[1:], "v")), api.OK)
	ok(t, "one more", s.Apply(put("a", "b"), put("k", long)), api.ErrRecord)
	ok(t, "one more", s.Apply(put(long, "v")), api.ErrRecord)
	if len(s.Keys("")) != 2 {
		t.Error("what was refused was done")
	}
	small := disk.New(16, 128)
	s = open(t, small)
	ok(t, "Apply", s.Apply(put("a", "b")), api.OK)
	ok(t, "too much", s.Apply(put("a", "c"), put("k", long[:2000])), api.ErrFull)
	if !maps.Equal(all(s), map[string]string{"a": "b"}) || s.Down() {
		t.Error("what was refused was done")
	}
	if !maps.Equal(all(open(t, small)), map[string]string{"a": "b"}) {
		t.Error("what was refused is seen behind Open")
	}
}

func TestP5_1FullOnlyWhereCompactedTooThereIsNoRoom(t *testing.T) {
	s := open(t, disk.New(16, 128))
	for i := range 500 {
		ok(t, "the same key", s.Apply(put("key", fmt.Sprint(i, strings.Repeat("x", 300)))), api.OK)
		ok(t, "and away", s.Apply(put("other", "x"), gone("other")), api.OK)
	}
	ok(t, "in the place of what is there", s.Apply(gone("key"), put("new", strings.Repeat("y", 700))), api.OK)
	if len(s.Keys("")) != 1 {
		t.Errorf("%q", s.Keys(""))
	}
}

func TestP5_1Down(t *testing.T) {
	d := disk.New(16, 128)
	s := open(t, d)
	s.Apply(put("a", "b"))
	d.Cut(1)
	ok(t, "Apply", s.Apply(put("a", "c"), put("d", "e")), api.ErrDiskDead)
	d.Crash(^uint64(0), -1, 0)
	if !s.Down() || !maps.Equal(all(s), map[string]string{"a": "b"}) {
		t.Error("not down, or not what was ahead of it")
	}
	ok(t, "Apply", s.Apply(put("x", strings.Repeat("y", api.MaxRecord))), api.ErrDiskDead)
	ok(t, "Apply of none", s.Apply(), api.ErrDiskDead)
	ok(t, "Compact", s.Compact(), api.ErrDiskDead)
	s = open(t, d)
	d.Cut(0)
	ok(t, "Compact", s.Compact(), api.ErrDiskDead)
	if !s.Down() {
		t.Error("not down by Compact")
	}
}

func TestP5_2Compact(t *testing.T) {
	d := disk.New(32, 128)
	s := open(t, d)
	for i := range 20 {
		s.Apply(put(fmt.Sprint("k", i%5), fmt.Sprint(i)), gone("k4"))
	}
	want := all(s)
	records := s.Count()
	ok(t, "Compact", s.Compact(), api.OK)
	if !maps.Equal(all(s), want) || !maps.Equal(all(open(t, d)), want) || s.Count() >= records || len(want) != 4 {
		t.Errorf("%q, not %q", all(s), want)
	}
}

func TestP5_2Room(t *testing.T) {
	rnd := rand.New(rand.NewSource(2))
	for _, c := range [][2]int{{70, 128}, {128, 64 + 128}, {300, 512}} {
		s := open(t, disk.New(c[0], c[1]))
		most := c[0]*c[1]/8 - 8*c[1]
		for range 400 {
			var pairs []store.Pair
			cost := s.Size() + 64*len(s.Keys(""))
			for range rnd.Intn(4) {
				p := put(fmt.Sprint("k", rnd.Intn(6)), strings.Repeat("v", rnd.Intn(120)))
				cost += len(p.Key) + len(p.Value) + 64
				pairs = append(pairs, p)
			}
			if e := s.Apply(pairs...); e == api.ErrFull && cost <= most {
				t.Fatalf("%v: full at %d of %d", c, cost, most)
			} else if e == api.ErrFull {
				s.Apply(gone("k0"), gone("k1"), gone("k2"))
			}
		}
	}
}

func TestP5_3Crashes(t *testing.T) {
	rnd := rand.New(rand.NewSource(4))
	d := disk.New(16, 128)
	now := map[string]string{}
	for range 40 {
		var pairs []store.Pair
		then := maps.Clone(now)
		for range rnd.Intn(4) {
			k := fmt.Sprint("k", rnd.Intn(3))
			if rnd.Intn(3) == 0 {
				pairs = append(pairs, gone(k))
				delete(then, k)
			} else {
				v := strings.Repeat("v", rnd.Intn(120))
				pairs = append(pairs, put(k, v))
				then[k] = v
			}
		}
		compact := rnd.Intn(4) == 0
		if compact {
			then = now
		}
		var left []*disk.Disk
		for n, dead := 0, true; dead; n++ {
			c := d.Copy()
			s := open(t, c)
			c.Cut(n)
			e := api.OK
			if compact {
				e = s.Compact()
			} else {
				e = s.Apply(pairs...)
			}
			dead = e == api.ErrDiskDead
			for range 6 {
				x := c.Copy()
				x.Crash(rnd.Uint64(), rnd.Intn(4)-1, rnd.Intn(128))
				got := all(open(t, x))
				if !maps.Equal(got, now) && !maps.Equal(got, then) || !dead && !maps.Equal(got, then) {
					t.Fatalf("cut at %d: %q, neither %q nor %q", n, got, now, then)
				}
				left = append(left, x)
			}
		}
		d = left[rnd.Intn(len(left))]
		now = all(open(t, d))
	}
}

func TestP5_4WhollyOrNotAtAll(t *testing.T) {
	d := disk.New(16, 128)
	s := open(t, d)
	if e := s.Apply(put("a", "1"), put("b", "2")); e != api.OK || !maps.Equal(all(open(t, d)), map[string]string{"a": "1", "b": "2"}) {
		t.Error("the chapter's example")
	}
}
