// Package rules holds no code of the program: its tests ask the program's text whether it keeps to the language's rules and to the layers.
package rules

import (
	"bytes"
	"go/ast"
	"go/format"
	"go/parser"
	"go/token"
	"os"
	"path/filepath"
	"slices"
	"strconv"
	"strings"
	"testing"
)

// layer: a package, the layers that it calls, the ways that it leans on.
type layer struct {
	name  string
	calls []int
	ways  string
}

func upTo(from, to int, more ...int) []int {
	for i := from; i <= to; i++ {
		more = append(more, i)
	}
	return more
}

var layers = []layer{
	{"sha", nil, "variadic"},
	{"code", nil, "variadic panic recover"},
	{"disk", nil, "embedding map"},
	{"wal", []int{3}, "variadic panic recover"},
	{"store", []int{2, 3, 4}, "embedding variadic map"},
	{"fault", nil, "errors-is errors-as variadic"},
	{"path", nil, "fallthrough"},
	{"tree", []int{7}, "map sort-func"},
	{"ver", nil, "fallthrough"},
	{"span", []int{9}, "fallthrough"},
	{"manifest", []int{9, 10}, "fallthrough"},
	{"lockfile", []int{1, 9, 11}, "panic recover"},
	{"archive", []int{1, 7, 8}, "panic recover"},
	{"index", []int{1, 9, 10, 11}, "fallthrough"},
	{"solve", []int{6, 9, 10, 14}, "wrapped errors-as closure"},
	{"why", []int{10, 14, 15}, "closure"},
	{"script", nil, "fallthrough"},
	{"vm", []int{6, 7, 8, 17}, "fallthrough wrapped"},
	{"net", []int{1, 13, 14}, "fallthrough"},
	{"fetch", []int{1, 2, 6}, "fallthrough wrapped"},
	{"cache", []int{1, 5}, "embedding variadic"},
	{"state", upTo(10, 13, 5, 8, 21), "variadic"},
	{"plan", upTo(9, 12, 6, 14, 15), "fallthrough wrapped errors-as"},
	{"stage", []int{6, 8, 9, 13, 17, 18}, "wrapped closure"},
	{"latch", []int{2, 5}, "embedding"},
	{"cmd", upTo(21, 24, 1, 6, 12, 14), "wrapped map"},
	{"proc", upTo(19, 25, 1, 5, 6, 12, 14), "fallthrough wrapped errors-is"},
	{"world", []int{3, 5, 6, 14, 19, 22, 25, 27}, "embedding"},
	{"audit", upTo(9, 16, 6, 22, 23, 24), "wrapped errors-is variadic"},
	{"play", []int{3, 13, 14, 28}, "variadic range-func"},
}

// helpers: packages beside the layers, which call no layer.
var helpers = []string{"api", "fresh", "lines"}

// samples: packages that only tests call.
var samples = []string{"sample"}

var library = []string{
	"bytes", "cmp", "container/heap", "errors", "iter", "maps", "math", "math/bits", "slices", "sort",
	"strconv", "strings", "sync", "sync/atomic", "unicode", "unicode/utf8",
}

// files: the program's files of one folder, by their paths.
func files(t *testing.T, folder string) (map[string]*ast.File, *token.FileSet) {
	t.Helper()
	paths, err := filepath.Glob(filepath.Join("..", folder, "*.go"))
	if err != nil || len(paths) == 0 {
		t.Fatalf("%s: no files (%v)", folder, err)
	}
	fset := token.NewFileSet()
	out := map[string]*ast.File{}
	for _, p := range paths {
		if strings.HasSuffix(p, "_test.go") {
			continue
		}
		f, err := parser.ParseFile(fset, p, nil, parser.ParseComments)
		if err != nil {
			t.Fatal(err)
		}
		out[p] = f
	}
	return out, fset
}

func folders() []string {
	out := append(slices.Clone(helpers), samples...)
	for _, l := range layers {
		out = append(out, l.name)
	}
	return out
}

func imports(f *ast.File) []string {
	var out []string
	for _, i := range f.Imports {
		s, _ := strconv.Unquote(i.Path.Value)
		out = append(out, s)
	}
	return out
}

func TestImports(t *testing.T) {
	for _, folder := range folders() {
		fs, _ := files(t, folder)
		for p, f := range fs {
			for _, s := range imports(f) {
				if !strings.HasPrefix(s, "haversack/") && !slices.Contains(library, s) {
					t.Errorf("%s imports %s", p, s)
				}
			}
		}
	}
}

func TestLayersCallWhatTheirChaptersName(t *testing.T) {
	for _, l := range layers {
		allowed := slices.Clone(helpers)
		for _, n := range l.calls {
			allowed = append(allowed, layers[n-1].name)
		}
		fs, _ := files(t, l.name)
		for p, f := range fs {
			for _, s := range imports(f) {
				if own, ok := strings.CutPrefix(s, "haversack/"); ok && !slices.Contains(allowed, own) {
					t.Errorf("%s imports %s", p, s)
				}
			}
		}
	}
	for _, h := range helpers {
		fs, _ := files(t, h)
		for p, f := range fs {
			for _, s := range imports(f) {
				if own, ok := strings.CutPrefix(s, "haversack/"); ok && own != "api" {
					t.Errorf("%s imports %s", p, s)
				}
			}
		}
	}
}

func TestLayout(t *testing.T) {
	for _, folder := range append(folders(), "rules") {
		paths, _ := filepath.Glob(filepath.Join("..", folder, "*.go"))
		for _, p := range paths {
			b, err := os.ReadFile(p)
			if err != nil {
				t.Fatal(err)
			}
			if got, err := format.Source(b); err != nil || !bytes.Equal(got, b) {
				t.Errorf("%s isn't in gofmt's layout", p)
			}
			if bytes.Contains(b, []byte("\n//"+"go:")) {
				t.Errorf("%s has a line for the compiler", p)
			}
		}
	}
}

func TestFunctions(t *testing.T) {
	for _, folder := range folders() {
		fs, fset := files(t, folder)
		for p, f := range fs {
			for _, d := range f.Decls {
				fn, ok := d.(*ast.FuncDecl)
				if !ok {
					continue
				}
				if fn.Name.Name == "init" && fn.Recv == nil {
					t.Errorf("%s has an init function", p)
				}
				if n := fset.Position(fn.End()).Line - fset.Position(fn.Pos()).Line; n > 60 {
					t.Errorf("%s: %s has %d lines", p, fn.Name.Name, n)
				}
			}
		}
	}
}

func TestPackageLevelVariables(t *testing.T) {
	for _, folder := range folders() {
		fs, _ := files(t, folder)
		for p, f := range fs {
			for _, d := range f.Decls {
				if g, ok := d.(*ast.GenDecl); ok && g.Tok == token.VAR {
					for _, s := range g.Specs {
						checkVariable(t, p, s.(*ast.ValueSpec))
					}
				}
			}
		}
	}
}

// checkVariable: a table written out where it is declared, or an error of one text.
func checkVariable(t *testing.T, p string, v *ast.ValueSpec) {
	if len(v.Values) != len(v.Names) {
		t.Errorf("%s: %s has no value of its own", p, v.Names[0].Name)
	}
	for _, x := range v.Values {
		switch y := x.(type) {
		case *ast.CompositeLit:
			if _, ok := y.Type.(*ast.MapType); ok {
				t.Errorf("%s: %s is a map", p, v.Names[0].Name)
			}
		case *ast.CallExpr:
			if s, ok := y.Fun.(*ast.SelectorExpr); !ok || s.Sel.Name != "New" {
				t.Errorf("%s: %s is made by a call", p, v.Names[0].Name)
			}
		default:
			t.Errorf("%s: %s is no table", p, v.Names[0].Name)
		}
	}
}

func TestWays(t *testing.T) {
	for _, l := range layers {
		got := map[string]bool{}
		fs, _ := files(t, l.name)
		for _, f := range fs {
			ast.Inspect(f, func(n ast.Node) bool {
				note(n, got)
				return true
			})
		}
		for _, w := range strings.Fields(l.ways) {
			if !got[w] {
				t.Errorf("%s hasn't %s", l.name, w)
			}
		}
	}
}

// note: the ways that one part of a file shows.
func note(n ast.Node, got map[string]bool) {
	switch x := n.(type) {
	case *ast.Ellipsis:
		got["variadic"] = got["variadic"] || x.Elt != nil
	case *ast.StructType:
		for _, f := range x.Fields.List {
			got["embedding"] = got["embedding"] || len(f.Names) == 0
		}
	case *ast.MapType:
		got["map"] = true
	case *ast.FuncLit:
		got["closure"] = true
	case *ast.BranchStmt:
		got["fallthrough"] = got["fallthrough"] || x.Tok == token.FALLTHROUGH
	case *ast.RangeStmt:
		if _, ok := x.X.(*ast.CallExpr); ok {
			got["range-func"] = true
		}
	case *ast.CallExpr:
		if f, ok := x.Fun.(*ast.Ident); ok {
			got[f.Name] = true
		}
	case *ast.SelectorExpr:
		switch x.Sel.Name {
		case "Is":
			got["errors-is"] = true
		case "As":
			got["errors-as"] = true
		case "SortFunc", "SortStableFunc":
			got["sort-func"] = true
		case "Wrap", "Fault", "Unwrap":
			got["wrapped"] = true
		}
	}
}
