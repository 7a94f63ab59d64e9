package cache_test

import (
	"bytes"
	"slices"
	"strings"
	"testing"

	"haversack/api"
	"haversack/cache"
	"haversack/disk"
	"haversack/sha"
	"haversack/store"
)

func made(t *testing.T, sectors int) (*cache.Cache, *store.Store, *disk.Disk) {
	t.Helper()
	d := disk.New(sectors, 512)
	s, e := store.Open(d)
	if e != api.OK {
		t.Fatal(e)
	}
	return cache.New(s), s, d
}

func reopened(t *testing.T, d *disk.Disk) *cache.Cache {
	t.Helper()
	d.Crash(0, -1, 0)
	s, e := store.Open(d)
	if e != api.OK {
		t.Fatal(e)
	}
	return cache.New(s)
}

func ok(t *testing.T, what string, got, want api.Errno) {
	t.Helper()
	if got != want {
		t.Errorf("%s: %v, not %v", what, got, want)
	}
}

func has(t *testing.T, c *cache.Cache, want ...string) {
	t.Helper()
	var sums []api.Key
	for _, w := range want {
		k := sha.Sum([]byte(w))
		sums = append(sums, k)
		if b, ok := c.Get(k); !ok || string(b) != w {
			t.Errorf("Get of %q: %q %v", w, b, ok)
		}
	}
	slices.SortFunc(sums, func(a, b api.Key) int { return bytes.Compare(a[:], b[:]) })
	if got := c.Keys(); !slices.Equal(got, sums) {
		t.Errorf("Keys: %d, not %d", len(got), len(sums))
	}
}

func TestP21_1PutGetKeysDrop(t *testing.T) {
	c, s, d := made(t, 64)
	has(t, c)
	for _, w := range []string{"one", "two", "three", "", "four", "one"} {
		k, e := c.Put([]byte(w))
		if e != api.OK || k != sha.Sum([]byte(w)) {
			t.Errorf("Put(%q): %v", w, e)
		}
	}
	has(t, c, "one", "two", "three", "", "four")
	has(t, reopened(t, d), "one", "two", "three", "", "four")
	if b, ok := c.Get(sha.Sum([]byte("five"))); ok || b != nil {
		t.Error("what isn't there")
	}
	for _, k := range s.Keys("") {
		if !strings.HasPrefix(k, "c/") && !strings.HasPrefix(k, "p/") {
			t.Errorf("key %q isn't this layer's", k)
		}
	}
	c.SetPart(sha.Sum([]byte("two")), "part")
	ok(t, "Drop", c.Drop(sha.Sum([]byte("two")), sha.Sum([]byte("five")), sha.Sum([]byte("four"))), api.OK)
	ok(t, "Drop of none", c.Drop(), api.OK)
	has(t, c, "one", "three", "")
	if c.Part(sha.Sum([]byte("two"))) != "part" {
		t.Error("Drop takes parts")
	}
	has(t, reopened(t, d), "one", "three", "")
}

func TestP21_1DropAtOnce(t *testing.T) {
	for n := range 12 {
		c, _, d := made(t, 64)
		a, _ := c.Put([]byte("a"))
		b, _ := c.Put([]byte("b"))
		d.Cut(n)
		e := c.Drop(a, b)
		if got := len(reopened(t, d).Keys()); got == 1 || e == api.OK && got != 0 {
			t.Errorf("cut at %d: %v, %d are there", n, e, got)
		}
	}
}

func TestP21_1Parts(t *testing.T) {
	c, _, d := made(t, 64)
	k, other := sha.Sum([]byte("archive")), sha.Sum([]byte("other"))
	if c.Part(k) != "" {
		t.Error("a part of nothing")
	}
	ok(t, "SetPart", c.SetPart(k, "arch"), api.OK)
	ok(t, "SetPart", c.SetPart(other, "\x00"), api.OK)
	if r := reopened(t, d); r.Part(k) != "arch" || r.Part(other) != "\x00" || len(r.Keys()) != 0 {
		t.Error("not sure")
	}
	if _, ok := c.Get(k); ok {
		t.Error("a part is no archive")
	}
	c.Put([]byte("archive"))
	if c.Part(k) != "" || c.Part(other) != "\x00" {
		t.Error("Put leaves a part")
	}
	ok(t, "SetPart", c.SetPart(k, "again"), api.OK)
	c.Put([]byte("archive"))
	if c.Part(k) != "" {
		t.Error("Put of what is there leaves a part")
	}
	ok(t, "SetPart of nothing", c.SetPart(other, ""), api.OK)
	ok(t, "SetPart of nothing", c.SetPart(other, ""), api.OK)
	if c.Part(other) != "" || reopened(t, d).Part(other) != "" {
		t.Error("SetPart of nothing")
	}
}

func TestP21_1Errors(t *testing.T) {
	c, _, d := made(t, 16)
	ok(t, "SetPart", c.SetPart(api.Key{1}, strings.Repeat("x", 9000)), api.ErrFull)
	if k, e := c.Put(make([]byte, 9000)); e != api.ErrFull || k != (api.Key{}) {
		t.Errorf("%v", e)
	}
	if _, e := c.Put(make([]byte, api.MaxRecord)); e != api.ErrRecord {
		t.Errorf("%v", e)
	}
	c.Put([]byte("a"))
	d.Cut(0)
	if k, e := c.Put([]byte("b")); e != api.ErrDiskDead || k != (api.Key{}) {
		t.Errorf("%v", e)
	}
	ok(t, "Drop", c.Drop(sha.Sum([]byte("a"))), api.ErrDiskDead)
	ok(t, "SetPart", c.SetPart(api.Key{}, "x"), api.ErrDiskDead)
	if _, e := c.Put([]byte("a")); e != api.ErrDiskDead {
		t.Errorf("of what is there: %v", e)
	}
	has(t, c, "a")
}

func TestP21_2WhatIsGotHasTheSum(t *testing.T) {
	c, s, _ := made(t, 64)
	k, _ := c.Put([]byte("good"))
	c.Put([]byte("other"))
	keys := s.Keys("c/")
	for _, x := range keys {
		s.Apply(store.Pair{Key: x, Value: "bad"})
	}
	s.Apply(store.Pair{Key: "c/", Value: "x"}, store.Pair{Key: "c/zz", Value: ""}, store.Pair{Key: "c", Value: "good"})
	if b, ok := c.Get(k); ok || b != nil {
		t.Errorf("%q", b)
	}
	has(t, c)
	if _, e := c.Put([]byte("good")); e != api.OK {
		t.Error(e)
	}
	has(t, c, "good")
}
