package wal_test

import (
	"bytes"
	"math/rand"
	"slices"
	"testing"

	"haversack/api"
	"haversack/disk"
	"haversack/wal"
)

func open(t *testing.T, d *disk.Disk) (*wal.Log, [][]byte) {
	t.Helper()
	l, r, e := wal.Open(d)
	if e != api.OK || l == nil || l.Count() != len(r) {
		t.Fatalf("Open: %v, %d records", e, len(r))
	}
	return l, r
}

func same(a, b [][]byte) bool { return slices.EqualFunc(a, b, bytes.Equal) }

func texts(s ...string) [][]byte {
	var out [][]byte
	for _, x := range s {
		out = append(out, []byte(x))
	}
	return out
}

func ok(t *testing.T, what string, got, want api.Errno) {
	t.Helper()
	if got != want {
		t.Errorf("%s: %v, not %v", what, got, want)
	}
}

func TestP4_1OpenRefuses(t *testing.T) {
	for _, c := range [][2]int{{15, 128}, {16, 127}, {1, 64}, {15, 4096}, {4096, 64}} {
		if l, r, e := wal.Open(disk.New(c[0], c[1])); e != api.ErrForm || l != nil || r != nil {
			t.Errorf("of %v: %v", c, e)
		}
	}
	d := disk.New(16, 128)
	d.Cut(0)
	d.Flush()
	if l, r, e := wal.Open(d); e != api.ErrDiskDead || l != nil || r != nil {
		t.Errorf("of a dead one: %v", e)
	}
	small := disk.New(15, 128)
	small.Cut(0)
	small.Flush()
	if _, _, e := wal.Open(small); e != api.ErrForm {
		t.Errorf("of a dead one with too few sectors: %v", e)
	}
	if _, _, e := wal.Open(nil); e != api.ErrForm {
		t.Errorf("of none: %v", e)
	}
}

func TestP4_1OpenOfNoLog(t *testing.T) {
	rnd := rand.New(rand.NewSource(1))
	for name, next := range map[string]func() byte{
		"noughts": func() byte { return 0 }, "ones": func() byte { return 1 }, "all bits": func() byte { return 255 },
		"any": func() byte { return byte(rnd.Intn(256)) }, "few": func() byte { return byte(rnd.Intn(2)) },
	} {
		d := disk.New(16, 128)
		for i := range 16 {
			b := make([]byte, 128)
			for j := range b {
				b[j] = next()
			}
			d.Write(i, b)
		}
		d.Flush()
		l, r := open(t, d)
		if len(r) != 0 {
			t.Errorf("%s: %d records", name, len(r))
		}
		ok(t, name, l.Commit([]byte("a")), api.OK)
		if _, r := open(t, d); !same(r, texts("a")) {
			t.Errorf("%s: not committed", name)
		}
	}
}

func TestP4_1CommitResetCount(t *testing.T) {
	d := disk.New(16, 128)
	l, _ := open(t, d)
	b := []byte("first")
	ok(t, "Commit", l.Commit(b, nil), api.OK)
	b[0] = 'x'
	ok(t, "Commit", l.Commit([]byte("third")), api.OK)
	ok(t, "Commit of none", l.Commit(), api.OK)
	_, r := open(t, d)
	if !same(r, texts("first", "", "third")) || l.Count() != 3 {
		t.Errorf("%q", r)
	}
	d.Crash(0, -1, 0)
	l, r = open(t, d)
	if !same(r, texts("first", "", "third")) {
		t.Error("not sure")
	}
	ok(t, "Reset", l.Reset([]byte("new"), []byte("er")), api.OK)
	ok(t, "Commit", l.Commit([]byte("more")), api.OK)
	d.Crash(0, -1, 0)
	if _, r = open(t, d); !same(r, texts("new", "er", "more")) || l.Count() != 3 {
		t.Errorf("%q", r)
	}
	ok(t, "Reset to none", l.Reset(), api.OK)
	d.Crash(0, -1, 0)
	if _, r = open(t, d); len(r) != 0 || l.Count() != 0 {
		t.Errorf("%q", r)
	}
}

func TestP4_1Refused(t *testing.T) {
	d := disk.New(16, 128)
	l, _ := open(t, d)
	l.Commit([]byte("a"))
	long := make([]byte, api.MaxRecord+1)
	ok(t, "too long", l.Commit([]byte("b"), long), api.ErrRecord)
	ok(t, "too long", l.Reset(long), api.ErrRecord)
	ok(t, "no room", l.Commit(long[:api.MaxRecord]), api.ErrFull)
	ok(t, "no room for the disk's bytes", l.Commit(long[:1024], long[:1024]), api.ErrFull)
	ok(t, "no room for the disk's bytes", l.Reset(long[:1024], long[:1024]), api.ErrFull)
	if _, r := open(t, d); !same(r, texts("a")) || l.Count() != 1 {
		t.Error("what was refused changed something")
	}
	d.Cut(0)
	ok(t, "no power", l.Commit(long), api.ErrRecord)
	ok(t, "no power", l.Commit(long[:2048]), api.ErrFull)
	ok(t, "no power", l.Commit([]byte("b")), api.ErrDiskDead)
	ok(t, "no power", l.Commit(), api.ErrDiskDead)
	ok(t, "no power", l.Reset(long), api.ErrRecord)
	ok(t, "no power", l.Reset(), api.ErrDiskDead)
	if l.Count() != 1 {
		t.Error("Count")
	}
	big, _ := open(t, disk.New(4096, 4096))
	ok(t, "the longest", big.Commit(long[:api.MaxRecord]), api.OK)
}

func TestP4_2Room(t *testing.T) {
	for _, c := range [][2]int{{16, 128}, {17, 128}, {31, 200}, {64, 128}, {16, 4096}, {300, 512}} {
		n, size := c[0], c[1]
		l, _ := open(t, disk.New(n, size))
		if l.Room() < n*size/4-4*size {
			t.Errorf("%v: Room %d", c, l.Room())
		}
		ok(t, "as long as Room", l.Commit(make([]byte, l.Room())), api.OK)
		most := n*size/4 - 6*size - 16
		if most > 0 {
			ok(t, "Reset of a quarter", l.Reset(make([]byte, most)), api.OK)
			ok(t, "Reset of a quarter again", l.Reset(make([]byte, most)), api.OK)
			var many [][]byte
			for range (most + 16) / 17 {
				many = append(many, []byte("x"))
			}
			ok(t, "Reset of many", l.Reset(many...), api.OK)
		}
		ok(t, "Reset", l.Reset(), api.OK)
		rnd := rand.New(rand.NewSource(int64(n)))
		for full := false; !full; {
			var records [][]byte
			cost := 2 * size
			for range rnd.Intn(4) {
				records = append(records, make([]byte, rnd.Intn(40)))
				cost += 16 + len(records[len(records)-1])
			}
			room := l.Room()
			switch e := l.Commit(records...); e {
			case api.OK:
				if l.Room() < room-cost {
					t.Fatalf("%v: from %d to %d by %d", c, room, l.Room(), cost)
				}
			case api.ErrFull:
				full = true
				if cost <= room || l.Room() != room {
					t.Fatalf("%v: full at %d for %d", c, room, cost)
				}
			default:
				t.Fatal(e)
			}
		}
	}
}

func TestP4_2RoomOfNothing(t *testing.T) {
	for left := range 7 {
		d := disk.New(16, 128)
		l, _ := open(t, d)
		for range left % 2 { // in either half
			ok(t, "Reset", l.Reset(), api.OK)
		}
		ok(t, "Commit", l.Commit(make([]byte, l.Room()-left)), api.OK)
		for i := range 5 {
			ok(t, "as long as Room", l.Commit(make([]byte, l.Room())), api.OK)
			if _, r := open(t, d); len(r) != i+2 || l.Count() != i+2 {
				t.Fatalf("%d left: %d records", left, len(r))
			}
		}
		ok(t, "longer", l.Commit(nil, []byte("x")), api.ErrFull)
		ok(t, "longer", l.Commit([]byte("x")), api.ErrFull)
		l, r := open(t, d)
		ok(t, "several of nothing", l.Commit(nil, nil, nil), api.OK)
		if _, now := open(t, d); !same(now, append(r, nil, nil, nil)) || l.Room() != 0 {
			t.Errorf("%d left: %d records", left, len(now))
		}
		ok(t, "Reset", l.Reset([]byte("a"), nil), api.OK)
		if _, now := open(t, d); !same(now, texts("a", "")) {
			t.Errorf("%q", now)
		}
	}
}

// crashes does do on copies of d, with the power cut at each of its writes and flushes, and hands what it told, and what each way of keeping and tearing leaves, to look.
func crashes(d *disk.Disk, rnd *rand.Rand, do func(d *disk.Disk) api.Errno, look func(d *disk.Disk, e api.Errno)) {
	for n := 0; ; n++ {
		c := d.Copy()
		c.Cut(n)
		e := do(c)
		for _, keep := range []uint64{0, ^uint64(0), rnd.Uint64(), rnd.Uint64()} {
			for _, at := range []int{0, 1, 2, 5, 8, 9, 30, c.Size() - 8, c.Size() - 7, c.Size() - 1, rnd.Intn(c.Size())} {
				x := c.Copy()
				x.Crash(keep, rnd.Intn(4)-1, at)
				look(x, e)
			}
		}
		if e != api.ErrDiskDead {
			return
		}
	}
}

func TestP4_3Crashes(t *testing.T) {
	rnd := rand.New(rand.NewSource(7))
	for round := range 12 {
		d := disk.New(16+rnd.Intn(10), 128+rnd.Intn(40))
		if round%3 == 1 { // a disk that had other bytes
			for i := range d.Sectors() {
				b := make([]byte, d.Size())
				rnd.Read(b)
				d.Write(i, b)
			}
			d.Flush()
		}
		var now [][]byte
		for range 10 {
			records := someRecords(rnd, d)
			reset := rnd.Intn(3) == 0
			do := func(d *disk.Disk) api.Errno {
				l, _ := open(t, d)
				if reset {
					return l.Reset(records...)
				}
				return l.Commit(records...)
			}
			then := records
			if !reset {
				then = append(slices.Clone(now), records...)
			}
			if do(d.Copy()) == api.ErrFull {
				continue
			}
			var left []*disk.Disk
			crashes(d, rnd, do, func(x *disk.Disk, e api.Errno) {
				_, r := open(t, x)
				if !same(r, then) && (!same(r, now) || e == api.OK) {
					t.Fatalf("round %d: %v, %d records, neither %d nor %d", round, e, len(r), len(now), len(then))
				}
				left = append(left, x)
			})
			d = left[rnd.Intn(len(left))] // on from a crash
			_, now = open(t, d)
			if rnd.Intn(2) == 0 && len(now) > 0 {
				now = now[:0:0]
				l, _ := open(t, d)
				ok(t, "Reset", l.Reset(), api.OK)
			}
		}
	}
}

// someRecords: some whose bytes are what lies on the disk.
func someRecords(rnd *rand.Rand, d *disk.Disk) [][]byte {
	var out [][]byte
	for range rnd.Intn(5) {
		b := make([]byte, rnd.Intn(200))
		rnd.Read(b)
		if rnd.Intn(2) == 0 {
			b, _ = d.Read(rnd.Intn(3))
			b = b[:rnd.Intn(len(b)+1)]
		}
		out = append(out, b)
	}
	return out
}

func TestP4_3ALogGoesOnBehindACrash(t *testing.T) {
	for n := range 14 {
		for _, keep := range []uint64{0, ^uint64(0)} {
			d := disk.New(16, 128)
			l, _ := open(t, d)
			l.Commit([]byte("a"))
			l.Commit([]byte("b"))
			d.Cut(n)
			if l.Reset(texts("other", "ones")...) != api.ErrDiskDead {
				continue
			}
			d.Crash(keep, -1, 0)
			ok(t, "Commit", l.Commit([]byte("c")), api.OK)
			if _, r := open(t, d); !same(r, texts("a", "b", "c")) || l.Count() != 3 {
				t.Errorf("cut at %d: %q", n, r)
			}
		}
	}
}

func TestP4_3CrashInOpen(t *testing.T) {
	d := disk.New(16, 128)
	l, _ := open(t, d)
	l.Commit(texts("a", "b")...)
	for n := range 10 {
		c := d.Copy()
		c.Cut(n)
		wal.Open(c)
		c.Crash(uint64(n), n%3, n*9)
		if _, r := open(t, c); !same(r, texts("a", "b")) {
			t.Errorf("cut at %d: %q", n, r)
		}
	}
}

func TestP4_4WhatWasCommittedIsThere(t *testing.T) {
	d := disk.New(40, 128)
	l, _ := open(t, d)
	var now [][]byte
	for i := range 30 {
		r := bytes.Repeat([]byte{byte(i)}, i*3)
		ok(t, "Commit", l.Commit(r), api.OK)
		now = append(now, r)
		d.Crash(uint64(i), i%2, i)
		if _, got := open(t, d); !same(got, now) {
			t.Fatalf("%d records, not %d", len(got), len(now))
		}
		if i%5 == 0 {
			l, _ = open(t, d)
		}
	}
}

func TestP4_1ABrokenLogIsNone(t *testing.T) {
	d := disk.New(16, 128)
	l, _ := open(t, d)
	l.Commit(texts("a", "b")...)
	b, _ := d.Read(2)
	for i := range b {
		b[i] = 255
	}
	d.Write(2, b)
	d.Flush()
	rnd := rand.New(rand.NewSource(5))
	l, r := open(t, d)
	if len(r) != 0 || l.Count() != 0 {
		t.Fatalf("%q", r)
	}
	crashes(d, rnd, func(d *disk.Disk) api.Errno {
		l, _ := open(t, d)
		return l.Commit(texts("a", "b")...)
	}, func(x *disk.Disk, e api.Errno) {
		if _, r := open(t, x); (len(r) != 0 || e == api.OK) && !same(r, texts("a", "b")) {
			t.Errorf("%v: %q", e, r)
		}
	})
}

func TestP4_1ALogOfOtherFramesIsNone(t *testing.T) {
	d := disk.New(16, 128)
	l, _ := open(t, d)
	l.Commit([]byte("four"))
	d.Write(2, make([]byte, 128)) // two frames of nothing, in the place of one
	d.Flush()
	if l, r := open(t, d); len(r) != 0 || l.Count() != 0 {
		t.Errorf("%q", r)
	}
	d = disk.New(16, 128)
	l, _ = open(t, d)
	l.Commit(texts("ab", "cd")...)
	b := make([]byte, 128)
	b[3] = 8 // one frame in the place of two
	d.Write(2, b)
	d.Flush()
	if l, r := open(t, d); len(r) != 0 || l.Count() != 0 {
		t.Errorf("%q", r)
	}
}

func TestP4_4RecordsOfAnyLength(t *testing.T) {
	d := disk.New(4096, 4096)
	l, _ := open(t, d)
	var all [][]byte
	for i, n := range []int{0, 1, 255, 256, 257, 65535, 65536, 65537, api.MaxRecord - 1, api.MaxRecord} {
		all = append(all, bytes.Repeat([]byte{byte(i + 1)}, n))
	}
	ok(t, "Commit", l.Commit(all...), api.OK)
	if _, r := open(t, d); !same(r, all) {
		t.Error("not read back")
	}
	ok(t, "Reset", l.Reset(all[5:]...), api.OK)
	if _, r := open(t, d); !same(r, all[5:]) {
		t.Error("not read back behind Reset")
	}
}

func TestP4_3ALogGoesOnAndCrashesAgain(t *testing.T) {
	old, other, third := texts("a", "b"), texts("another that is longer"), texts("c", "d", "e and more", "f")
	for first := range 8 {
		for second := range 12 {
			for at := range 48 {
				for _, reset := range []bool{false, true} {
					d := disk.New(16, 128)
					l, _ := open(t, d)
					l.Commit(old...)
					d.Cut(first)
					told := old
					if l.Reset(other...) == api.OK {
						told = other
					}
					d.Crash(^uint64(0), -1, 0)
					_, now := open(t, d)
					d.Cut(second)
					then := third
					if reset {
						l.Reset(third...)
					} else {
						l.Commit(third...)
						then = append(slices.Clone(told), third...)
					}
					d.Crash(0, 0, at)
					if _, r := open(t, d); !same(r, now) && !same(r, told) && !same(r, then) {
						t.Fatalf("cut at %d, %d, torn at %d: %q", first, second, at, r)
					}
				}
			}
		}
	}
}
