package net_test

import (
	"bytes"
	"reflect"
	"testing"

	"haversack/api"
	"haversack/index"
	"haversack/net"
	"haversack/sha"
)

var (
	first  = bytes.Repeat([]byte("first-"), 30) // 180 bytes
	second = bytes.Repeat([]byte("SECOND"), 20) // 120 bytes
	sum    = sha.Hex(sha.Sum(nil))
	text   = "pack a 1.0.0 " + sum + " 180\nneed c *\npack b 1.0.0 " + sum + " 120\npack b 2.0.0-x.1 " + sum + " 0\npack c 1.0.0 " + sum + " 1\n"
	one    = api.Version{Major: 1}
	marked = api.Version{Major: 2, Pre: []string{"x", "1"}}
)

func rows(t *testing.T, s string) []api.Row {
	t.Helper()
	l, line, e := index.Parse(s)
	if e != api.OK {
		t.Fatalf("%v at %d", e, line)
	}
	return l
}

func made(t *testing.T) *net.Net {
	return net.New(rows(t, text), [][]byte{bytes.Clone(first), bytes.Clone(second), nil})
}

func ask(name string, v api.Version, off, n int) api.Ask {
	return api.Ask{Name: name, V: v, Off: off, N: n}
}

func check(t *testing.T, what string, got api.Got, kind int, b []byte) {
	t.Helper()
	if got.Kind != kind || !bytes.Equal(got.B, b) {
		t.Errorf("%s: %d %q, not %d %q", what, got.Kind, got.B, kind, b)
	}
}

func TestP19_1Rows(t *testing.T) {
	l := rows(t, text)
	n := net.New(l, nil)
	l[0].Name = "x"
	l[2].V.Pre[0] = "y"
	l[0].Needs[0].Name = "y"
	if !reflect.DeepEqual(n.Rows(), rows(t, text)) {
		t.Error("what was handed in is kept")
	}
	n.Rows()[0].Needs[0].Name = "z"
	if !reflect.DeepEqual(n.Rows(), rows(t, text)) {
		t.Error("what was answered is kept")
	}
	l = rows(t, "pack z 1.0.0 "+sum+" 1\n")
	n.SetRows(l)
	l[0].Name = "x"
	if !reflect.DeepEqual(n.Rows(), rows(t, "pack z 1.0.0 "+sum+" 1\n")) {
		t.Error("SetRows")
	}
	n.SetRows(nil)
	if len(n.Rows()) != 0 {
		t.Error("SetRows of none")
	}
}

func TestP19_1GetOfArchives(t *testing.T) {
	archives := [][]byte{bytes.Clone(first), bytes.Clone(second), nil}
	n := net.New(rows(t, text), archives)
	archives[0][0] = 'x'
	check(t, "what was handed in is kept", n.Get(ask("a", one, 0, 5)), api.GotBytes, []byte("first"))
	n.Get(ask("a", one, 0, 5)).B[0] = 'x'
	check(t, "what was answered is kept", n.Get(ask("a", one, 0, 5)), api.GotBytes, []byte("first"))
	check(t, "a piece", n.Get(ask("b", one, 3, 4)), api.GotBytes, []byte("ONDS"))
	check(t, "Off below 0", n.Get(ask("b", one, -9, 4)), api.GotBytes, []byte("SECO"))
	check(t, "N above Chunk", n.Get(ask("a", one, 6, 1<<62)), api.GotBytes, first[6:70])
	check(t, "N as Chunk", n.Get(ask("a", one, 6, 64)), api.GotBytes, first[6:70])
	check(t, "N below 0", n.Get(ask("a", one, 6, -1)), api.GotBytes, nil)
	check(t, "N 0", n.Get(ask("a", one, 6, 0)), api.GotBytes, nil)
	check(t, "to the end", n.Get(ask("a", one, 170, 64)), api.GotBytes, first[170:])
	check(t, "at the end", n.Get(ask("a", one, 180, 64)), api.GotBytes, nil)
	check(t, "beyond the end", n.Get(ask("a", one, 1<<62, 64)), api.GotBytes, nil)
	check(t, "an empty archive", n.Get(ask("b", marked, 0, 64)), api.GotBytes, nil)
	check(t, "no archive", n.Get(ask("c", one, 0, 64)), api.GotNone, nil)
	check(t, "no such version", n.Get(ask("a", marked, 0, 64)), api.GotNone, nil)
	check(t, "no such name", n.Get(ask("z", one, 0, 64)), api.GotNone, nil)
	n.SetRows(rows(t, "pack q 1.0.0 "+sum+" 9\npack a 1.0.0 "+sum+" 9\npack b 1.0.0 "+sum+" 9"))
	check(t, "archives stay those of their numbers", n.Get(ask("a", one, 0, 3)), api.GotBytes, []byte("SEC"))
	check(t, "archives stay those of their numbers", n.Get(ask("q", one, 0, 3)), api.GotBytes, []byte("fir"))
	two := append(rows(t, text), rows(t, text)...)
	n = net.New(two[1:], [][]byte{first, second, first, second, second})
	check(t, "the first row counts", n.Get(ask("b", one, 0, 3)), api.GotBytes, []byte("fir"))
}

func TestP19_1Faults(t *testing.T) {
	turned := func(b []byte, i int, bit byte) []byte {
		b = bytes.Clone(b)
		b[i] ^= bit
		return b
	}
	a := ask("b", one, 0, 10)
	b := second[:10]
	for _, c := range []struct {
		what string
		f    api.Fault
		kind int
		b    []byte
	}{
		{"none", api.Fault{Kind: api.FaultNone, N: 3}, api.GotBytes, b}, {"another kind", api.Fault{Kind: 99, N: 3}, api.GotBytes, b}, {"another kind", api.Fault{Kind: -1, N: 3}, api.GotBytes, b},
		{"lost", api.Fault{Kind: api.FaultLost, N: 3}, api.GotLost, nil}, {"short", api.Fault{Kind: api.FaultShort, N: 3}, api.GotBytes, b[:3]}, {"short of more", api.Fault{Kind: api.FaultShort, N: 11}, api.GotBytes, b}, {"short of none", api.Fault{Kind: api.FaultShort}, api.GotBytes, nil}, {"short below 0", api.Fault{Kind: api.FaultShort, N: -4}, api.GotBytes, nil},
		{"spoilt", api.Fault{Kind: api.FaultSpoil}, api.GotBytes, turned(b, 0, 1)}, {"spoilt", api.Fault{Kind: api.FaultSpoil, N: 79}, api.GotBytes, turned(b, 9, 128)}, {"spoilt round", api.Fault{Kind: api.FaultSpoil, N: 80 * 1000}, api.GotBytes, turned(b, 0, 1)}, {"spoilt round", api.Fault{Kind: api.FaultSpoil, N: 93}, api.GotBytes, turned(b, 1, 32)},
		{"spoilt below 0", api.Fault{Kind: api.FaultSpoil, N: -1}, api.GotBytes, turned(b, 9, 128)},
		{"other", api.Fault{Kind: api.FaultOther, N: 3}, api.GotBytes, first[:10]},
	} {
		n := made(t)
		n.Fault(c.f)
		check(t, c.what, n.Get(a), c.kind, c.b)
		check(t, "behind it", n.Get(a), api.GotBytes, b)
	}
	n := made(t)
	n.Fault(api.Fault{Kind: api.FaultSpoil, N: -1 << 63}) // by 80 a rest of 32
	check(t, "spoilt far below 0", n.Get(a), api.GotBytes, turned(b, 4, 1))
	n.Fault(api.Fault{Kind: api.FaultOther})
	check(t, "other from Off on", n.Get(ask("b", one, 100, 64)), api.GotBytes, first[100:120])
	n.Fault(api.Fault{Kind: api.FaultSpoil, N: 5})
	check(t, "spoilt of no bytes", n.Get(ask("b", one, 120, 64)), api.GotBytes, nil)
	n = net.New(rows(t, text), [][]byte{first[:4], second})
	n.Fault(api.Fault{Kind: api.FaultOther})
	check(t, "other, at most", n.Get(a), api.GotBytes, first[:4])
	n.Fault(api.Fault{Kind: api.FaultOther})
	check(t, "other, beyond its end", n.Get(ask("b", one, 100, 64)), api.GotBytes, nil)
}

func TestP19_1FaultsWaitInOrder(t *testing.T) {
	n := made(t)
	a := ask("a", one, 0, 3)
	n.Fault(api.Fault{Kind: api.FaultLost})
	n.Fault(api.Fault{Kind: 77})
	n.Fault(api.Fault{Kind: api.FaultShort, N: 1})
	check(t, "the first", n.Get(a), api.GotLost, nil)
	check(t, "of no kind", n.Get(a), api.GotBytes, []byte("fir"))
	check(t, "the third", n.Get(a), api.GotBytes, []byte("f"))
	check(t, "none", n.Get(a), api.GotBytes, []byte("fir"))
	n.Fault(api.Fault{Kind: api.FaultLost})
	check(t, "taken by what isn't there", n.Get(ask("z", one, 0, 3)), api.GotNone, nil)
	check(t, "none", n.Get(a), api.GotBytes, []byte("fir"))
	if n.Count() != 6 {
		t.Errorf("Count: %d", n.Count())
	}
}

func TestP19_2PieceByPiece(t *testing.T) {
	n := made(t)
	var got []byte
	for len(got) < len(first) {
		got = append(got, n.Get(ask("a", one, len(got), api.Chunk)).B...)
	}
	if !bytes.Equal(got, first) || n.Count() != 3 {
		t.Errorf("%q in %d", got, n.Count())
	}
}
