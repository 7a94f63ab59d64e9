package vm_test

import (
	"errors"
	"fmt"
	"maps"
	"strings"
	"testing"

	"haversack/api"
	"haversack/fault"
	"haversack/script"
	"haversack/tree"
	"haversack/vm"
)

func lines(t *testing.T, s string) []api.Line {
	t.Helper()
	l, line, e := script.Parse(s)
	if e != api.OK {
		t.Fatalf("%q: %v at %d", s, e, line)
	}
	return l
}

func look(t *tree.Tree) string {
	var out []string
	for _, f := range t.Files() {
		if f.Dir {
			out = append(out, f.Path+"/")
		} else {
			out = append(out, f.Path+"="+string(f.B))
		}
	}
	return strings.Join(out, " ")
}

// done: what a script came to.
type done struct {
	fuel, line int
	e          api.Errno
	tree       string
}

func run(t *testing.T, s string, vars map[string]string, fuel int) done {
	t.Helper()
	x := tree.New()
	x.Write("f", []byte("1"))
	fuelTaken, line, err := vm.Run(lines(t, s), x, vars, fuel)
	if err == nil {
		return done{fuelTaken, line, api.OK, look(x)}
	}
	var f *fault.Fault
	if !errors.As(err, &f) || f != err || f.Op != "line" || f.Name != fmt.Sprint(line) || f.Err != fault.Code(err) {
		t.Errorf("%q: %v", s, err)
	}
	return done{fuelTaken, line, fault.Code(err), look(x)}
}

func check(t *testing.T, s string, want done) {
	t.Helper()
	if got := run(t, s, map[string]string{"v": "w", "a1": "x/y", "long": strings.Repeat("l", api.MaxFile)}, 1000); got != want {
		t.Errorf("%q: %v, not %v", s, got, want)
	}
}

func TestP18_1Lines(t *testing.T) {
	check(t, "", done{0, 0, api.OK, "f=1"})
	check(t, "copy f g\nrename f h\nwrite a/b \"x\"\nappend a/b \"y\"\nmkdir c\nremove h", done{6, 6, api.OK, "a/ a/b=xy c/ g=1"})
	for s, e := range map[string]api.Errno{
		"copy g h": api.ErrNone, "rename g h": api.ErrNone, "copy f f": api.ErrKind, "rename f ../h": api.ErrEscape, `write f/g "x"`: api.ErrKind, `write a* "x"`: api.ErrPath, `append f/g "x"`: api.ErrKind, "mkdir f": api.ErrKind, "remove g": api.ErrNone,
		`fail "x"`: api.ErrFailed, `set V "x"`: api.ErrFailed, `set $v "x"`: api.ErrFailed, `set 1v "x"`: api.ErrFailed, `set a-b "x"`: api.ErrFailed, "set v \"$long$v\"": api.ErrSpace, "set V \"$long$v\"": api.ErrFailed, `write g "$long$v"`: api.ErrSpace, `append f "$long"`: api.ErrSpace,
		`write $long "x"`: api.ErrPath,
	} {
		check(t, s+"\nmkdir z", done{1, 0, e, "f=1"})
		check(t, "mkdir d\n"+s, done{2, 1, e, "d/ f=1"})
	}
	if got := run(t, "set v \"$long\"\nwrite g \"$v\"", map[string]string{"long": strings.Repeat("l", api.MaxFile)}, 9); got.e != api.OK {
		t.Errorf("as long as may be: %v", got.e)
	}
}

func TestP18_1Names(t *testing.T) {
	for text, want := range map[string]string{
		"$v": "w", "$v$v": "ww", "-$v-": "-w-", "$a1": "x/y", "$a1b": "", "$a": "", "$$": "$", "$$v": "$v", "$$$v": "$w", "$$$$": "$$", "$": "$", "$ v": "$ v", "$V": "$V", "$1": "$1", "$-v": "$-v", "a$": "a$", "$vV": "wV", "$v1": "", "$v-1": "w-1", "no": "no", "": "",
	} {
		check(t, fmt.Sprintf("write f %q", text), done{1, 1, api.OK, "f=" + want})
	}
	check(t, `write $a1/$v "$v"`, done{1, 1, api.OK, "f=1 x/ x/y/ x/y/w=w"})
	check(t, "copy f $v\nrename $v $a1", done{2, 2, api.OK, "f=1 x/ x/y=1"})
	check(t, "mkdir $v\nif exists $v\nremove $v\nend", done{4, 4, api.OK, "f=1"})
	check(t, `remove $none`, done{1, 0, api.ErrKind, "f=1"})
	odd := map[string]string{"az09": "1", "z": "2", "a0": "3"}
	if got := run(t, "set zz90 \"$az09$z$a0\"\nwrite f \"$zz90\"", odd, 9); got != (done{2, 2, api.OK, "f=123"}) {
		t.Errorf("%v", got)
	}
	vars := map[string]string{"v": "$u", "u": "no"}
	got := run(t, "set u \"$v$v\"\nset n9 \"$u!\"\nset v \"\"\nwrite f \"$n9$v\"", vars, 9)
	if got.tree != "f=$u$u!" || !maps.Equal(vars, map[string]string{"v": "", "u": "$u$u", "n9": "$u$u!"}) {
		t.Errorf("%v %q", got, vars)
	}
}

func TestP18_1If(t *testing.T) {
	check(t, "if exists f\nmkdir a\nend\nmkdir b", done{4, 4, api.OK, "a/ b/ f=1"})
	check(t, "if exists g\nmkdir a\nend\nmkdir b", done{3, 4, api.OK, "b/ f=1"})
	check(t, "if not exists f\nmkdir a\nend\nmkdir b", done{3, 4, api.OK, "b/ f=1"})
	check(t, "if not exists g\nmkdir a\nend\nmkdir b", done{4, 4, api.OK, "a/ b/ f=1"})
	check(t, "if exists f\nmkdir a\nelse\nmkdir b\nend\nmkdir c", done{5, 6, api.OK, "a/ c/ f=1"})
	check(t, "if exists g\nmkdir a\nelse\nmkdir b\nend\nmkdir c", done{4, 6, api.OK, "b/ c/ f=1"})
	check(t, "if exists ..\nmkdir a\nelse\nif exists f\nif exists g\nelse\nmkdir b\nend\nend\nend", done{7, 10, api.OK, "b/ f=1"})
	check(t, "if exists f\nelse\nend", done{3, 3, api.OK, "f=1"})
	check(t, "if exists g\nelse\nend", done{2, 3, api.OK, "f=1"})
}

func TestP18_1Repeat(t *testing.T) {
	check(t, "repeat 3\nappend f \"x\"\nend", done{7, 3, api.OK, "f=1xxx"})
	check(t, "repeat 0\nappend f \"x\"\nend\nmkdir a", done{2, 4, api.OK, "a/ f=1"})
	check(t, "repeat 1\nend", done{2, 2, api.OK, "f=1"})
	check(t, "repeat 2\nrepeat 3\nappend f \"x\"\nend\nappend f \"-\"\nend", done{19, 6, api.OK, "f=1xxx-xxx-"})
	check(t, "repeat 3\nif exists a\nappend a \"x\"\nelse\nwrite a \"\"\nend\nend", done{1 + 4 + 5 + 5, 7, api.OK, "a=xx f=1"})
	check(t, "repeat 2\nmkdir a\nrename a b\nend", done{6, 2, api.ErrThere, "a/ b/ f=1"})
}

func TestP18_1Fuel(t *testing.T) {
	s := "repeat 1000\nappend f \"x\"\nend"
	for fuel, want := range map[int]done{
		0: {0, 0, api.ErrFuel, "f=1"}, -5: {0, 0, api.ErrFuel, "f=1"}, 1: {1, 1, api.ErrFuel, "f=1"}, 2: {2, 2, api.ErrFuel, "f=1x"}, 3: {3, 1, api.ErrFuel, "f=1x"}, 4: {4, 2, api.ErrFuel, "f=1xx"},
		2001: {2001, 3, api.OK, "f=1" + strings.Repeat("x", 1000)}, 2000: {2000, 2, api.ErrFuel, "f=1" + strings.Repeat("x", 1000)}, 1 << 60: {2001, 3, api.OK, "f=1" + strings.Repeat("x", 1000)},
	} {
		if got := run(t, s, nil, fuel); got != want {
			t.Errorf("%d: %v", fuel, got)
		}
	}
	if got := run(t, "repeat 1000\n"+s+"\nend", nil, 1<<60); got.fuel != api.MaxFuel || got.e != api.ErrFuel {
		t.Errorf("above MaxFuel: %d %v", got.fuel, got.e)
	}
	if got := run(t, "", nil, 0); got.e != api.OK || got.fuel != 0 {
		t.Errorf("no lines: %v", got)
	}
	if got := run(t, "fail \"\"", nil, 1); got.e != api.ErrFailed || got.fuel != 1 {
		t.Errorf("a line that fails: %v", got)
	}
}

func TestP18_2NilVars(t *testing.T) {
	if got := run(t, "set v \"x\"\nwrite f \"-$v-\"", nil, 9); got != (done{2, 2, api.OK, "f=--"}) {
		t.Errorf("%v", got)
	}
	if got := run(t, "set V \"x\"", nil, 9); got.e != api.ErrFailed {
		t.Errorf("%v", got)
	}
	s := fmt.Sprintf("set v %q", strings.Repeat("x", api.MaxFile-20))
	if got := run(t, s, nil, 9); got.e != api.OK {
		t.Errorf("%v", got)
	}
}

func TestP18_3Ends(t *testing.T) {
	// A text that would be far longer than any memory.
	var b strings.Builder
	b.WriteString("set a \"" + strings.Repeat("x", 30000) + "\"\nset b \"" + strings.Repeat("$a", 10000) + "\"")
	if got := run(t, b.String(), map[string]string{}, 9); got.e != api.ErrSpace || got.line != 1 {
		t.Errorf("%v", got)
	}
	// Lines that no script has: calls end.
	for _, l := range [][]api.Line{
		{{Kind: api.LEnd}, {Kind: api.LElse}, {Kind: api.LEnd}}, {{Kind: api.LIf, A: "g"}}, {{Kind: api.LRepeat, N: 5}}, {{Kind: api.LRepeat, N: -5}}, {{Kind: api.LRepeat, N: 3}, {Kind: api.LElse}, {Kind: api.LEnd}, {Kind: api.LEnd}},
		{{Kind: api.LRepeat, N: 1 << 60}, {Kind: api.LEnd}}, {{Kind: 99}, {Kind: -1}}, {{Kind: api.LElse}, {Kind: api.LElse}}, {{Kind: api.LIf, A: "f"}, {Kind: api.LElse}, {Kind: api.LElse}, {Kind: api.LEnd}},
	} {
		vm.Run(l, tree.New(), nil, 1<<40)
	}
	vm.Run(lines(t, "mkdir a"), nil, nil, 5)
}
