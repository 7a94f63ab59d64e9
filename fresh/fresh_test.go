package fresh_test

import (
	"reflect"
	"testing"

	"haversack/api"
	"haversack/fresh"
)

func rows() []api.Row {
	v := func() api.Version { return api.Version{Major: 1, Pre: []string{"a", "b"}} }
	return []api.Row{{Name: "n", V: v(), Size: 3, Needs: []api.Need{{Name: "m", Text: "t", Span: api.Span{Or: [][]api.Bound{{{Sign: "<", V: v()}}, nil}}}}}, {}}
}

func TestRows(t *testing.T) {
	l := rows()
	c := fresh.Rows(l)
	if !reflect.DeepEqual(c, l) {
		t.Fatalf("%v, not %v", c, l)
	}
	l[0].V.Pre[0] = "x"
	l[0].Needs[0].Span.Or[0][0].V.Pre[1] = "x"
	l[0].Needs[0].Span.Or[0][0].Sign = "x"
	l[0].Needs[0].Name = "x"
	l[1].Name = "x"
	if !reflect.DeepEqual(c, rows()) {
		t.Error("memory is shared")
	}
	if fresh.Rows(nil) != nil {
		t.Error("nil")
	}
}

func TestFilesAndPins(t *testing.T) {
	f := []api.File{{Path: "a", B: []byte("x")}, {Path: "b", Dir: true}}
	c := fresh.Files(f)
	if !reflect.DeepEqual(c, f) {
		t.Error("files")
	}
	f[0].B[0] = 'y'
	if string(c[0].B) != "x" {
		t.Error("files share memory")
	}
	p := []api.Pin{{Name: "a", V: api.Version{Pre: []string{"x"}}}}
	d := fresh.Pins(p)
	p[0].V.Pre[0] = "y"
	if d[0].V.Pre[0] != "x" || d[0].Name != "a" {
		t.Error("pins")
	}
}
