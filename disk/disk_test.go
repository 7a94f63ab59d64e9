package disk_test

import (
	"bytes"
	"testing"

	"haversack/api"
	"haversack/disk"
)

func fill(c byte) []byte { return bytes.Repeat([]byte{c}, 64) }

// look: the first and the last byte of each of the first n sectors.
func look(t *testing.T, d *disk.Disk, n int) string {
	t.Helper()
	var out []byte
	for i := range n {
		b, e := d.Read(i)
		if e != api.OK || len(b) != d.Size() {
			t.Fatalf("Read(%d): %v", i, e)
		}
		for _, c := range []byte{b[0], b[len(b)-1]} {
			if c == 0 {
				c = '.'
			}
			out = append(out, c)
		}
	}
	return string(out)
}

func want(t *testing.T, what string, got, e api.Errno) {
	t.Helper()
	if got != e {
		t.Errorf("%s: %v, not %v", what, got, e)
	}
}

func TestP3_1New(t *testing.T) {
	for _, c := range [][4]int{{3, 100, 3, 100}, {0, 0, 1, 64}, {-5, -5, 1, 64}, {4097, 4097, 4096, 4096}, {4096, 64, 4096, 64}, {1, 63, 1, 64}} {
		d := disk.New(c[0], c[1])
		if d.Sectors() != c[2] || d.Size() != c[3] {
			t.Errorf("New(%d, %d): %d sectors of %d", c[0], c[1], d.Sectors(), d.Size())
		}
	}
	d := disk.New(2, 70)
	if b, e := d.Read(1); e != api.OK || !bytes.Equal(b, make([]byte, 70)) {
		t.Error("no noughts")
	}
}

func TestP3_1ReadWrite(t *testing.T) {
	d := disk.New(2, 64)
	b := fill('a')
	want(t, "Write", d.Write(1, b), api.OK)
	b[0] = 'x'
	if got, _ := d.Read(1); !bytes.Equal(got, fill('a')) {
		t.Error("what was handed in is kept")
	} else {
		got[0] = 'y'
	}
	if look(t, d, 2) != "..aa" {
		t.Error("what Read answered is kept")
	}
	for _, i := range []int{-1, 2, 1 << 40} {
		if b, e := d.Read(i); e != api.ErrDiskPlace || b != nil {
			t.Errorf("Read(%d): %v", i, e)
		}
		want(t, "Write there", d.Write(i, nil), api.ErrDiskPlace)
	}
	want(t, "Write of too few", d.Write(0, b[:63]), api.ErrDiskSize)
	want(t, "Write of too many", d.Write(0, append(b, 1)), api.ErrDiskSize)
	if look(t, d, 2) != "..aa" {
		t.Error("what was refused was done")
	}
}

func TestP3_2Cut(t *testing.T) {
	d := disk.New(2, 64)
	d.Cut(2)
	want(t, "refused", d.Write(9, fill('a')), api.ErrDiskPlace)
	want(t, "first", d.Write(0, fill('a')), api.OK)
	want(t, "second", d.Flush(), api.OK)
	want(t, "refused when none is left", d.Write(0, nil), api.ErrDiskSize)
	want(t, "refused when none is left", d.Write(2, fill('b')), api.ErrDiskPlace)
	if d.Dead() {
		t.Error("dead by what was refused")
	}
	if _, e := d.Read(0); e != api.OK {
		t.Error("a Read finds no power")
	}
	want(t, "third", d.Write(1, fill('b')), api.ErrDiskDead)
	if !d.Dead() {
		t.Error("not dead")
	}
	want(t, "Write", d.Write(9, nil), api.ErrDiskDead)
	want(t, "Flush", d.Flush(), api.ErrDiskDead)
	if _, e := d.Read(9); e != api.ErrDiskDead {
		t.Error("Read")
	}
	d.Cut(100)
	want(t, "a later Cut", d.Flush(), api.ErrDiskDead)
	d.Crash(0, -1, 0)
	want(t, "Flush behind Crash", d.Flush(), api.OK)
	if d.Dead() || look(t, d, 2) != "aa.." {
		t.Error("behind Crash")
	}
	for range 200 {
		want(t, "Crash takes a Cut back", d.Flush(), api.OK)
	}
}

func TestP3_2CutTakenBack(t *testing.T) {
	d := disk.New(1, 64)
	d.Cut(0)
	d.Cut(1)
	want(t, "one", d.Flush(), api.OK)
	d.Cut(-7)
	want(t, "none", d.Flush(), api.ErrDiskDead)
	d.Crash(0, -1, 0)
	d.Write(0, fill('a'))
	d.Cut(0)
	want(t, "flush", d.Flush(), api.ErrDiskDead)
	d.Crash(0, -1, 0)
	if look(t, d, 1) != ".." {
		t.Error("a Flush without power made sure")
	}
}

func TestP3_2CrashKeeps(t *testing.T) {
	d := disk.New(5, 64)
	for i := range 5 {
		d.Write(i, fill('a'))
	}
	d.Flush()
	for _, i := range []int{4, 1, 3} {
		d.Write(i, fill('b'))
	}
	d.Write(3, fill('c'))
	for _, c := range []struct {
		keep     uint64
		torn, at int
		want     string
	}{
		{0, -1, 0, "aaaaaaaaaa"}, {7, -1, 0, "aabbaaccbb"}, {1, -1, 0, "aabbaaaaaa"}, {2, -1, 0, "aaaaaaccaa"}, {4, -1, 0, "aaaaaaaabb"},
		{7, 1, 3, "aabbaacabb"}, {0, 1, 3, "aaaaaacaaa"}, {7, 0, 0, "aaaaaaccbb"}, {7, 0, -3, "aaaaaaccbb"}, {0, 2, 64, "aaaaaaaabb"}, {0, 2, 99, "aaaaaaaabb"},
		{0, 2, 63, "aaaaaaaaba"}, {7, 3, 1, "aabbaaccbb"}, {^uint64(7), 3, 1, "aaaaaaaaaa"},
	} {
		x := d.Copy()
		x.Crash(c.keep, c.torn, c.at)
		if got := look(t, x, 5); got != c.want {
			t.Errorf("Crash(%d, %d, %d): %s, not %s", c.keep, c.torn, c.at, got, c.want)
		}
		x.Crash(^uint64(0), 0, 64)
		if got := look(t, x, 5); got != c.want {
			t.Error("not all is sure behind a Crash")
		}
	}
	if look(t, d, 5) != "aabbaaccbb" {
		t.Error("a Copy's Crash is seen")
	}
}

func TestP3_2CrashOfMany(t *testing.T) {
	d := disk.New(130, 64)
	for i := range 130 {
		d.Write(i, fill('b'))
	}
	d.Crash(1<<2|1<<63, 70, 9)
	for i := range 130 {
		b, _ := d.Read(i)
		kept := i%64 == 2 || i%64 == 63
		switch {
		case i == 70 && (b[8] != 'b' || b[9] != 0), i != 70 && kept != (b[0] == 'b'), i != 70 && b[0] != b[63]:
			t.Errorf("sector %d: %v", i, b)
		}
	}
}

func TestP3_2Copy(t *testing.T) {
	d := disk.New(2, 64)
	d.Write(0, fill('a'))
	d.Cut(1)
	c := d.Copy()
	c.Write(1, fill('b'))
	want(t, "the copy's Cut", c.Flush(), api.ErrDiskDead)
	want(t, "the disk's own", d.Write(1, fill('c')), api.OK)
	if look(t, d, 2) != "aacc" || d.Dead() || !c.Dead() || !c.Copy().Dead() {
		t.Error("a copy and its disk aren't two")
	}
}

func TestP3_3WhatIsSureStays(t *testing.T) {
	d := disk.New(3, 64)
	d.Write(0, fill('a'))
	want(t, "Flush", d.Flush(), api.OK)
	d.Write(1, fill('b'))
	d.Crash(0, -1, 0)
	if look(t, d, 3) != "aa...." {
		t.Error(look(t, d, 3))
	}
	e := disk.New(1, 64)
	e.Write(0, fill('a'))
	e.Crash(0, -1, 0)
	if look(t, e, 1) != ".." {
		t.Error("the chapter's example")
	}
}
