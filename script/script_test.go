package script_test

import (
	"fmt"
	"reflect"
	"slices"
	"strings"
	"testing"

	"haversack/api"
	"haversack/script"
)

func parse(t *testing.T, s string) []api.Line {
	t.Helper()
	l, line, e := script.Parse(s)
	if e != api.OK || line != 0 {
		t.Fatalf("%.200q: %v at %d", s, e, line)
	}
	return l
}

func TestP17_1Words(t *testing.T) {
	for s, want := range map[string][]string{
		"": nil, " \t ": nil, "a": {"a"}, "\ta  b\t": {"a", "b"}, `"a b"`: {`"a b`}, `""`: {`"`}, `a "" b`: {"a", `"`, "b"}, `"a\"b\\\n"`: {"\"a\"b\\\n"}, `"\\" x`: {`"\`, "x"},
		`a"b c"`: {`a"b`, `c"`}, `a\b`: {`a\b`}, "a\nb": {"a\nb"}, "\"a\nb\tc\"": {"\"a\nb\tc"}, `"#"`: {`"#`}, `#`: {"#"}, "a\r": {"a\r"}, `\"a`: {`\"a`}, "\"é\xff\"": {"\"é\xff"},
	} {
		if got, ok := script.Words(s); !ok || !slices.Equal(got, want) {
			t.Errorf("%q: %q %v", s, got, ok)
		}
	}
	for _, s := range []string{`"`, `"a`, `a "b`, `"a\"`, `"a\`, `"\t"`, `"\a"`, `"a"b`, `"a""b"`, `"" "`, `"a\ b"`, `a "b"c`, "\"a\"\n", `"\N"`} {
		if got, ok := script.Words(s); ok || got != nil {
			t.Errorf("%q: %q", s, got)
		}
	}
}

func TestP17_2Parse(t *testing.T) {
	got := parse(t, "# it\n\n  \t# \"whatever\ncopy a b\n write\ta \"x\\ny\"\nappend a \"\"\nmkdir a/b\nremove $a\nrename a b\nset v \" \"\nif exists a\n\telse\nend\nif not exists a\nend\nrepeat 007\nend\nrepeat 000001000\nend\nrepeat 0\nend\nfail \"no\"")
	want := []api.Line{
		{Kind: api.LCopy, A: "a", B: "b"}, {Kind: api.LWrite, A: "a", Text: "x\ny"}, {Kind: api.LAppend, A: "a"}, {Kind: api.LMkdir, A: "a/b"}, {Kind: api.LRemove, A: "$a"}, {Kind: api.LRename, A: "a", B: "b"},
		{Kind: api.LSet, A: "v", Text: " "}, {Kind: api.LIf, A: "a"}, {Kind: api.LElse}, {Kind: api.LEnd}, {Kind: api.LIf, A: "a", Not: true}, {Kind: api.LEnd},
		{Kind: api.LRepeat, N: 7}, {Kind: api.LEnd}, {Kind: api.LRepeat, N: 1000}, {Kind: api.LEnd}, {Kind: api.LRepeat}, {Kind: api.LEnd}, {Kind: api.LFail, Text: "no"},
	}
	if !reflect.DeepEqual(got, want) {
		t.Errorf("%v", got)
	}
	if l := parse(t, ""); len(l) != 0 {
		t.Error("of nothing")
	}
	if l := parse(t, "if exists exists\nend\nif not exists not\nend\ncopy end else"); l[0].A != "exists" || l[2].A != "not" || l[4].B != "else" {
		t.Errorf("keywords as words: %v", l)
	}
	if l := parse(t, strings.Repeat("mkdir a\n#\n\n", 200)); len(l) != 200 {
		t.Error("200 lines")
	}
	parse(t, strings.Repeat("repeat 1\nif exists a\n", 4)+strings.Repeat("else\nend\nend\n", 4))
	parse(t, strings.Repeat("if exists a\nelse\nend\n", 60))
	parse(t, "#"+strings.Repeat("x", api.MaxText-1))
}

func TestP17_2Refused(t *testing.T) {
	for _, c := range []struct {
		s    string
		line int
	}{
		{"copy a", 1}, {"copy a b c", 1}, {"copy", 1}, {`copy a "b"`, 1}, {`"copy" a b`, 1}, {"Copy a b", 1}, {"x", 1}, {"write a", 1}, {"write a b", 1}, {`write "a" "b"`, 1}, {`write a "b" c`, 1}, {`write a "b`, 1}, {`append "b"`, 1}, {"mkdir", 1}, {"mkdir a b", 1}, {`mkdir "a"`, 1}, {"remove", 1}, {"rename a", 1},
		{"set a b", 1}, {`set "a" "b"`, 1}, {"if a\nend", 1}, {"if exists\nend", 1}, {"if exists a b\nend", 1}, {"if not a\nend", 1}, {"if not exists\nend", 1}, {"if not not exists a\nend", 1}, {`if exists "a"` + "\nend", 1}, {`if "exists" a` + "\nend", 1},
		{"repeat\nend", 1}, {"repeat 1001\nend", 1}, {"repeat -1\nend", 1}, {"repeat +1\nend", 1}, {"repeat 1x\nend", 1}, {"repeat 0000000001\nend", 1}, {"repeat 99999999999999999999\nend", 1}, {`repeat "1"` + "\nend", 1}, {`repeat ""` + "\nend", 1}, {"repeat 1 2\nend", 1}, {"fail no", 1}, {"fail", 1}, {`fail "a" "b"`, 1},
		{"\n#\nend", 3}, {"else", 1}, {"if exists a\nend\nelse", 3}, {"if exists a\nend\nend", 3}, {"if exists a\nelse\nelse\nend", 3}, {"repeat 1\nelse\nend", 2}, {"if exists a\nrepeat 1\nelse\nend\nend", 3}, {"if exists a\nelse x\nend", 2}, {"if exists a\nend a", 2}, {"else\n", 1},
		{"if exists a", 0}, {"repeat 1\n", 0}, {"if exists a\nelse\n", 0}, {"if exists a\nrepeat 2\nend\n", 0}, {"if exists a\nx", 2},
		{strings.Repeat("mkdir a\n\n", 200) + "mkdir a", 401}, {strings.Repeat("mkdir a\n", 200) + "# a\nx", 202}, {strings.Repeat("repeat 1\nif exists a\n", 4) + "repeat 1", 9}, {strings.Repeat("if exists a\n", 9), 9},
	} {
		l, line, e := script.Parse(c.s)
		if e != api.ErrScript || line != c.line || l != nil {
			t.Errorf("%.200q: %v at %d, not at %d", c.s, e, line, c.line)
		}
	}
	if _, line, e := script.Parse("x" + strings.Repeat("\n", api.MaxText)); e != api.ErrScript || line != 0 {
		t.Errorf("too long: %v at %d", e, line)
	}
}

func TestP17_3Text(t *testing.T) {
	s := "if not exists a\n\trepeat 3\n\t\tappend a \"x\\\"\\\\\\n\ty\"\n\tend\nelse\n\tif exists b\n\t\tset v \"\"\n\tend\n\tfail \"no\"\nend\ncopy a b\nrename b c\nmkdir d\nremove e\nwrite f \"g\"\n"
	if got := script.Text(parse(t, s)); got != s {
		t.Errorf("%q", got)
	}
	if got := script.Text(parse(t, "repeat 007\n    mkdir   a\n  end")); got != "repeat 7\n\tmkdir a\nend\n" {
		t.Errorf("%q", got)
	}
	if script.Text(nil) != "" {
		t.Error("of nothing")
	}
}

// TestP17_3TextOfNoScript: lines that no script has: only an if or repeat that is open stands a tab ahead.
func TestP17_3TextOfNoScript(t *testing.T) {
	ifA, rep, els, end, mk := api.Line{Kind: api.LIf, A: "a"}, api.Line{Kind: api.LRepeat, N: 2}, api.Line{Kind: api.LElse}, api.Line{Kind: api.LEnd}, api.Line{Kind: api.LMkdir, A: "b"}
	for _, c := range []struct {
		l    []api.Line
		want string
	}{
		{[]api.Line{els, mk}, "else\nmkdir b\n"},
		{[]api.Line{els, els, mk, els}, "else\nelse\nmkdir b\nelse\n"},
		{[]api.Line{mk, els, ifA, end}, "mkdir b\nelse\nif exists a\nend\n"},
		{[]api.Line{els, ifA, mk, els, mk, end, mk}, "else\nif exists a\n\tmkdir b\nelse\n\tmkdir b\nend\nmkdir b\n"},
		{[]api.Line{ifA, mk, els, mk, els, mk, end, els, mk}, "if exists a\n\tmkdir b\nelse\n\tmkdir b\nelse\n\tmkdir b\nend\nelse\nmkdir b\n"},
		{[]api.Line{rep, ifA, els, end, els, mk, end, mk}, "repeat 2\n\tif exists a\n\telse\n\tend\nelse\n\tmkdir b\nend\nmkdir b\n"},
		{[]api.Line{rep, ifA, mk}, "repeat 2\n\tif exists a\n\t\tmkdir b\n"},
		{[]api.Line{end, mk, end, end, rep, mk}, "end\nmkdir b\nend\nend\nrepeat 2\n\tmkdir b\n"},
		{[]api.Line{end, els, end, ifA, end, mk}, "end\nelse\nend\nif exists a\nend\nmkdir b\n"},
	} {
		if got := script.Text(c.l); got != c.want {
			t.Errorf("%q, not %q", got, c.want)
		}
	}
	script.Text([]api.Line{{Kind: -1}, {Kind: api.LFail + 1}, {Kind: 99}, {Kind: api.LRepeat, N: -5}})
}

func TestP17_4ParseOfText(t *testing.T) {
	x := uint32(1)
	pick := func(n int) int {
		x = x*1664525 + 1013904223
		return int(x >> 8 % uint32(n))
	}
	texts := []string{`""`, `"a"`, `"\\"`, `"\""`, `"\n\\n"`, "\" \t\"", `"#"`}
	for range 500 {
		var b strings.Builder
		open := 0
		for range 30 {
			switch pick(8) {
			case 0:
				if open < 8 {
					open++
					fmt.Fprintf(&b, "if %sexists a\n mkdir x\nelse\n", []string{"", "not "}[pick(2)])
				}
			case 1:
				if open < 8 {
					open++
					fmt.Fprintf(&b, "repeat %d\n", pick(1001))
				}
			case 2:
				if open > 0 {
					open--
					b.WriteString("end\n")
				}
			case 3:
				fmt.Fprintf(&b, "%s a %s\n", []string{"write", "append", "set"}[pick(3)], texts[pick(len(texts))])
			case 4:
				fmt.Fprintf(&b, "fail %s\n", texts[pick(len(texts))])
			case 5:
				fmt.Fprintf(&b, " %s a\"b $c\n", []string{"copy", "rename"}[pick(2)])
			default:
				b.WriteString("#\n\n")
			}
		}
		b.WriteString(strings.Repeat("end\n", open))
		l := parse(t, b.String())
		if again := parse(t, script.Text(l)); !reflect.DeepEqual(again, l) {
			t.Fatalf("%q: %v, not %v", b.String(), again, l)
		}
	}
}
