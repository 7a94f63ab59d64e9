package stage_test

import (
	"errors"
	"fmt"
	"slices"
	"strings"
	"testing"

	"haversack/api"
	"haversack/archive"
	"haversack/fault"
	"haversack/sha"
	"haversack/stage"
)

func file(p, b string) api.File { return api.File{Path: p, B: []byte(b)} }
func dir(p string) api.File     { return api.File{Path: p, Dir: true} }

func pin(name string, piece []byte) api.Pin {
	return api.Pin{Name: name, V: api.Version{Major: 1, Minor: 2, Pre: []string{"b", "3"}}, Sum: sha.Sum(piece)}
}

func look(l []api.File) string {
	var out []string
	for _, f := range l {
		if f.Dir {
			out = append(out, f.Path+"/")
		} else {
			out = append(out, f.Path+"="+string(f.B))
		}
	}
	return strings.Join(out, " ")
}

// told: an error of stage's, whose Err is the number, or wraps it.
func told(t *testing.T, what string, l []api.File, err error, name string, e api.Errno, ops ...string) {
	t.Helper()
	var f *fault.Fault
	if l != nil || !errors.As(err, &f) || f != err || f.Op != "build" || f.Name != name || fault.Code(err) != e || !slices.Equal(fault.Ops(err), append([]string{"build"}, ops...)) {
		t.Errorf("%s: %v, not %v", what, err, e)
	}
}

func TestP24_1Build(t *testing.T) {
	for _, c := range []struct {
		what  string
		files []api.File
		want  string
	}{
		{"nothing", nil, "a/"},
		{"files", []api.File{file("x", "1"), dir("d"), file("d/y", "2"), file("a-b", "")}, "a/ a/a-b= a/d/ a/d/y=2 a/x=1"},
		{"a script", []api.File{file("x", "1"), file("build.hs", "copy x y\nwrite v \"$name $version $none\"\nremove x\n")}, "a/ a/v=a 1.2.0-b.3  a/y=1"},
		{"an empty script", []api.File{file("build.hs", "")}, "a/"},
		{"a script that writes another", []api.File{file("build.hs", "if exists build.hs\nfail \"there\"\nend\nwrite build.hs \"x\"")}, "a/ a/build.hs=x"},
		{"a script elsewhere", []api.File{file("d/build.hs", "x"), file("Build.hs", "x")}, "a/ a/Build.hs=x a/d/ a/d/build.hs=x"},
		{"a directory of that name", []api.File{dir("build.hs"), file("build.hs/x", "1")}, "a/ a/build.hs/ a/build.hs/x=1"},
	} {
		piece := archive.Pack(c.files)
		kept := string(piece)
		l, err := stage.Build(pin("a", piece), piece)
		if err != nil || look(l) != c.want {
			t.Errorf("%s: %v %q", c.what, err, look(l))
		}
		for _, f := range l {
			for i := range f.B {
				f.B[i] = '?'
			}
		}
		if string(piece) != kept {
			t.Errorf("%s: what was handed in is changed", c.what)
		}
	}
}

func TestP24_1Refused(t *testing.T) {
	good := archive.Pack([]api.File{file("x", "1")})
	l, err := stage.Build(pin("a", good), append(good, 'x'))
	told(t, "another sum", l, err, "a", api.ErrDigest)
	l, err = stage.Build(pin("a", good), []byte("no archive"))
	told(t, "another sum comes first", l, err, "a", api.ErrDigest)
	for _, c := range []struct {
		what, piece string
		e           api.Errno
	}{
		{"no archive", "no archive", api.ErrArchive}, {"an escape", "PAK1\x01\x00\x02..", api.ErrEscape},
	} {
		l, err := stage.Build(pin("a", []byte(c.piece)), []byte(c.piece))
		told(t, c.what, l, err, "a", c.e)
	}
	for text, e := range map[string]api.Errno{
		"x": api.ErrScript, "end": api.ErrScript, `fail "x"`: api.ErrFailed, "copy build.hs y": api.ErrNone, "mkdir ..": api.ErrEscape, `repeat 1000` + "\nrepeat 1000\nend\nend": api.ErrFuel,
	} {
		piece := archive.Pack([]api.File{file("build.hs", text)})
		l, err := stage.Build(pin("a", piece), piece)
		if e == api.ErrScript {
			told(t, text, l, err, "a", e)
		} else {
			told(t, text, l, err, "a", e, "line")
		}
	}
}

func TestP24_2All(t *testing.T) {
	pieces := map[api.Key][]byte{}
	var pins []api.Pin
	add := func(name string, files ...api.File) {
		piece := archive.Pack(files)
		pins = append(pins, pin(name, piece))
		pieces[sha.Sum(piece)] = piece
	}
	get := func(k api.Key) ([]byte, bool) {
		b, ok := pieces[k]
		return b, ok
	}
	add("a", file("x", "1"), file("build.hs", "write n \"$name\""))
	add("a-b", file("y", "2"))
	add("b")
	l, err := stage.All(pins, get)
	if err != nil || look(l) != "a/ a-b/ a-b/y=2 a/n=a a/x=1 b/" {
		t.Errorf("%v %q", err, look(l))
	}
	if l, err := stage.All(nil, get); err != nil || len(l) != 0 {
		t.Errorf("of none: %v", err)
	}
	if l, err := stage.All(nil, nil); err != nil || len(l) != 0 {
		t.Errorf("of none: %v", err)
	}
	add("c", file("build.hs", `fail ""`))
	missing := pin("d", []byte("missing"))
	l, err = stage.All(append(slices.Clone(pins), missing), get)
	told(t, "the first error", l, err, "c", api.ErrFailed, "line")
	l, err = stage.All(append([]api.Pin{missing}, pins...), get)
	told(t, "the first error, by pins as they stand", l, err, "d", api.ErrMissing)
	l, err = stage.All(pins, nil)
	told(t, "no get", l, err, "a", api.ErrMissing)
	pieces[pins[1].Sum] = []byte("other")
	l, err = stage.All(pins, get)
	told(t, "other bytes", l, err, "a-b", api.ErrDigest)
	l, err = stage.All([]api.Pin{pins[0], pins[0]}, get)
	told(t, "a name twice", l, err, "", api.ErrSpace)
}

func TestP24_2Space(t *testing.T) {
	// A package that is built to many bytes: a pin each.
	pieces := map[api.Key][]byte{}
	get := func(k api.Key) ([]byte, bool) { b, ok := pieces[k]; return b, ok }
	many := func(n, more int) (pins []api.Pin) {
		for i := range n {
			files := []api.File{file("f", strings.Repeat("x", api.MaxFile))}
			if i == n-1 {
				files[0].B = files[0].B[:more]
			}
			piece := archive.Pack(files)
			pieces[sha.Sum(piece)] = piece
			pins = append(pins, pin(fmt.Sprintf("p%02d", i), piece))
		}
		return pins
	}
	l, err := stage.All(many(16, 0), get)
	if err != nil {
		t.Fatal(err)
	}
	left := api.MaxRecord - 256 - len(archive.Pack(l))
	if l, err := stage.All(many(16, left), get); err != nil || len(archive.Pack(l)) != api.MaxRecord-256 {
		t.Errorf("as much as may be: %v", err)
	}
	l, err = stage.All(many(16, left+1), get)
	told(t, "a byte more", l, err, "", api.ErrSpace)
	long := archive.Pack([]api.File{dir(strings.Repeat("d/", 11) + "d")})
	pieces[sha.Sum(long)] = long
	l, err = stage.All([]api.Pin{pin("a", long)}, get)
	told(t, "too deep below the name", l, err, "", api.ErrSpace)
	if l, err := stage.Build(pin("a", long), long); err != nil || len(l) != 13 {
		t.Errorf("Build doesn't ask for that: %v", err)
	}
}

func TestP24_3HangsOnTheArchiveAlone(t *testing.T) {
	piece := archive.Pack([]api.File{file("b", "1"), file("a", "2"), file("build.hs", "set x \"1\"\nrepeat 3\nappend c \"$x\"\nset x \"$x$x\"\nend")})
	first, _ := stage.Build(pin("n", piece), piece)
	for range 20 {
		again, _ := stage.Build(pin("n", slices.Clone(piece)), slices.Clone(piece))
		if look(again) != look(first) {
			t.Fatalf("%q, not %q", look(again), look(first))
		}
	}
	if look(first) != "n/ n/a=2 n/b=1 n/c=1111111" {
		t.Error(look(first))
	}
}
