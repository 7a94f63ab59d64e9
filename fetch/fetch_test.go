package fetch_test

import (
	"bytes"
	"errors"
	"testing"

	"haversack/api"
	"haversack/code"
	"haversack/fault"
	"haversack/fetch"
	"haversack/sha"
)

var whole = bytes.Repeat([]byte("archive "), 20) // 160 bytes: 64, 64, 32

func row(b []byte) api.Row {
	return api.Row{Name: "a", V: api.Version{Major: 1, Pre: []string{"x"}}, Sum: sha.Sum(b), Size: len(b)}
}

func bytesOf(b string, faulty, spoilt uint64) string {
	w := code.NewWriter()
	w.Text(b)
	w.Num(faulty, spoilt)
	return string(w.Bytes())
}

func got(b []byte) api.Got { return api.Got{Kind: api.GotBytes, B: b} }

// reply: what a registry without faults would reply next.
func reply(t *testing.T, f *fetch.Fetch, b []byte) api.Got {
	t.Helper()
	a, ok := f.Ask()
	if !ok {
		t.Fatal("over")
	}
	return got(b[a.Off : a.Off+a.N])
}

func asks(t *testing.T, what string, f *fetch.Fetch, off, n int) {
	t.Helper()
	a, ok := f.Ask()
	if !ok || a.Name != "a" || a.V.Major != 1 || len(a.V.Pre) != 1 || a.Off != off || a.N != n {
		t.Errorf("%s: %v %v, not from %d on %d", what, a, ok, off, n)
	}
}

func over(t *testing.T, what string, f *fetch.Fetch, done bool) {
	t.Helper()
	if a, ok := f.Ask(); ok || a.Name != "" || a.N != 0 {
		t.Errorf("%s: isn't over", what)
	}
	if b, ok := f.Done(); ok != done || !ok && b != nil {
		t.Errorf("%s: Done %v", what, ok)
	}
	for _, g := range []api.Got{{Kind: api.GotNone}, {Kind: api.GotLost}, got(whole)} {
		if f.Take(g) != nil {
			t.Errorf("%s: something is taken", what)
		}
	}
}

func told(t *testing.T, what string, err error, e api.Errno) {
	t.Helper()
	if e == api.OK {
		if err != nil {
			t.Errorf("%s: %v", what, err)
		}
		return
	}
	var f *fault.Fault
	if !errors.As(err, &f) || f != err || f.Op != "fetch" || f.Name != "a" || f.Err != e {
		t.Errorf("%s: %v, not %v", what, err, e)
	}
}

func TestP20_1PieceByPiece(t *testing.T) {
	r := row(whole)
	f := fetch.New(r)
	r.V.Pre[0] = "y"
	for i, n := range []int{64, 64, 32} {
		asks(t, "the next", f, 64*i, n)
		if _, ok := f.Done(); ok {
			t.Error("done ahead of the end")
		}
		g := reply(t, f, whole)
		g.B = append(bytes.Clone(g.B), "more than was asked for"...)
		told(t, "Take", f.Take(g), api.OK)
		g.B[0] = '?'
	}
	over(t, "all", f, true)
	b, ok := f.Done()
	if !ok || !bytes.Equal(b, whole) {
		t.Errorf("%q", b)
	}
	b[0] = '?'
	if b, _ := f.Done(); !bytes.Equal(b, whole) {
		t.Error("what is answered is kept")
	}
	if a, _ := fetch.New(row(whole)).Ask(); a.V.Pre[0] != "x" {
		t.Error("the version's marks")
	}
}

func TestP20_1Faulty(t *testing.T) {
	for what, c := range map[string]struct {
		g    api.Got
		more int
	}{
		"lost": {api.Got{Kind: api.GotLost}, 0}, "lost with bytes": {api.Got{Kind: api.GotLost, B: whole[:64]}, 0}, "another kind": {api.Got{Kind: 9, B: whole[:64]}, 0}, "below 0": {api.Got{Kind: -1}, 0}, "short": {got(whole[:3]), 3}, "of none": {got(nil), 0},
	} {
		f := fetch.New(row(whole))
		for i := range 3 {
			told(t, what, f.Take(c.g), api.OK)
			asks(t, what, f, (i+1)*c.more, 64)
		}
		told(t, what, f.Take(c.g), api.ErrNetwork)
		over(t, what, f, false)
	}
	f := fetch.New(row(whole))
	for range 5 { // a reply that isn't faulty begins the row anew
		a, ok := f.Ask()
		if !ok {
			break
		}
		for range 3 {
			told(t, "lost", f.Take(api.Got{Kind: api.GotLost}), api.OK)
		}
		told(t, "good", f.Take(got(whole[a.Off:a.Off+a.N])), api.OK)
	}
	if _, ok := f.Done(); !ok {
		t.Error("not done")
	}
	f = fetch.New(row(whole))
	f.Take(got(whole[:64]))
	told(t, "none", f.Take(api.Got{Kind: api.GotNone, B: whole}), api.ErrMissing)
	over(t, "none", f, false)
}

func TestP20_2Spoilt(t *testing.T) {
	bad := bytes.Clone(whole)
	bad[100] ^= 4
	f := fetch.New(row(whole))
	for range 3 {
		told(t, "the first try", f.Take(reply(t, f, bad)), api.OK)
	}
	asks(t, "anew", f, 0, 64)
	if f.Bytes() != bytesOf("", 0, 1) {
		t.Errorf("%q", f.Bytes())
	}
	again := fetch.Open(row(whole), f.Bytes())
	for range 3 {
		told(t, "the second try", f.Take(reply(t, f, whole)), api.OK)
	}
	over(t, "the second try", f, true)
	for i := range 3 {
		told(t, "spoilt again", again.Take(reply(t, again, bad)), []api.Errno{api.OK, api.OK, api.ErrDigest}[i])
	}
	over(t, "spoilt again", again, false)
}

func TestP20_2OfSize0(t *testing.T) {
	for _, size := range []int{0, -7} {
		r := row(nil)
		r.Size = size
		f := fetch.New(r)
		over(t, "of nothing", f, true)
		if b, ok := f.Done(); !ok || len(b) != 0 {
			t.Error("of nothing")
		}
		r.Sum[0]++
		f = fetch.New(r)
		asks(t, "another sum", f, 0, 0)
		told(t, "lost", f.Take(api.Got{Kind: api.GotLost}), api.OK)
		told(t, "the first", f.Take(got(nil)), api.OK)
		asks(t, "another sum", f, 0, 0)
		if f.Bytes() != bytesOf("", 0, 1) {
			t.Errorf("%q", f.Bytes())
		}
		told(t, "the second", f.Take(got(whole)), api.ErrDigest)
		over(t, "another sum", f, false)
	}
}

func TestP20_3BytesOpen(t *testing.T) {
	f := fetch.New(row(whole))
	if f.Bytes() != bytesOf("", 0, 0) {
		t.Errorf("%q", f.Bytes())
	}
	f.Take(got(whole[:64]))
	f.Take(got(whole[64:70]))
	f.Take(api.Got{Kind: api.GotLost})
	if f.Bytes() != bytesOf(string(whole[:70]), 2, 0) {
		t.Errorf("%q", f.Bytes())
	}
	g := fetch.Open(row(whole), f.Bytes())
	asks(t, "opened", g, 70, 64)
	if g.Bytes() != f.Bytes() {
		t.Errorf("%q", g.Bytes())
	}
	told(t, "the third", g.Take(api.Got{Kind: api.GotLost}), api.OK)
	told(t, "the fourth", g.Take(api.Got{Kind: api.GotLost}), api.ErrNetwork)
	asks(t, "the other goes its own way", f, 70, 64)
	over(t, "all is there", fetch.Open(row(whole), bytesOf(string(whole), 1, 1)), true)
	f = fetch.Open(row(whole), bytesOf(string(whole[1:])+"?", 0, 0))
	asks(t, "as many, but others", f, 160, 0)
	told(t, "as many, but others", f.Take(got(nil)), api.OK)
	asks(t, "anew", f, 0, 64)
	for what, s := range map[string]string{
		"nothing": "", "no bytes of a fetch": "\x05abc", "bytes behind": bytesOf("ar", 0, 0) + "\x00", "too few": bytesOf("ar", 0, 0)[:4], "more than Size": bytesOf(string(whole)+"x", 0, 0), "Retries": bytesOf("ar", api.Retries, 0), "too many tries": bytesOf("ar", 0, 2), "far too many": bytesOf("ar", 1<<63, 0),
	} {
		g := fetch.Open(row(whole), s)
		asks(t, what, g, 0, 64)
		if g.Bytes() != bytesOf("", 0, 0) {
			t.Errorf("%s: %q", what, g.Bytes())
		}
	}
	asks(t, "just so many", fetch.Open(row(whole), bytesOf("ar", api.Retries-1, 1)), 2, 64)
	over(t, "of nothing", fetch.Open(row(nil), ""), true)
	over(t, "of nothing", fetch.Open(row(nil), bytesOf("", 3, 1)), true)
}

func TestP20_4DoneHasTheSum(t *testing.T) {
	x := uint32(1)
	for range 2000 {
		f := fetch.New(row(whole))
		for {
			a, ok := f.Ask()
			if !ok {
				break
			}
			x = x*1664525 + 1013904223
			b := bytes.Clone(whole[a.Off : a.Off+a.N])
			g := got(b)
			switch x >> 20 % 12 {
			case 0:
				g.Kind = api.GotLost
			case 1:
				g.B = b[:len(b)/2]
			case 2:
				b[0]++
			case 3:
				g.B = append(b, b...)
			}
			f.Take(g)
		}
		if b, ok := f.Done(); ok && sha.Sum(b) != row(whole).Sum {
			t.Fatalf("%q", b)
		}
	}
}
