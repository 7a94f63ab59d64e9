// Package sample: small registries, for tests.
package sample

import (
	"strconv"
	"strings"

	"haversack/api"
	"haversack/archive"
	"haversack/index"
	"haversack/sha"
)

// Pack: a package's version, what it needs ("name span" each), and its files.
type Pack struct {
	Name, Version string
	Needs         []string
	Files         []api.File
}

// File tells a file of that text.
func File(path, text string) api.File { return api.File{Path: path, B: []byte(text)} }

// Script tells the file that says how a package is built.
func Script(lines ...string) api.File { return File("build.hs", strings.Join(lines, "\n")) }

// Index tells packs as an index's text, and their archives.
func Index(packs ...Pack) (string, [][]byte) {
	var b strings.Builder
	var archives [][]byte
	for _, p := range packs {
		piece := archive.Pack(p.Files)
		archives = append(archives, piece)
		b.WriteString("pack " + p.Name + " " + p.Version + " " + sha.Hex(sha.Sum(piece)) + " " + strconv.Itoa(len(piece)) + "\n")
		for _, n := range p.Needs {
			b.WriteString("need " + n + "\n")
		}
	}
	return b.String(), archives
}

// Registry tells packs as rows, and their archives. Packs of which there is no index are none.
func Registry(packs ...Pack) ([]api.Row, [][]byte) {
	text, archives := Index(packs...)
	rows, _, e := index.Parse(text)
	if e != api.OK {
		return nil, nil
	}
	return rows, archives
}

// Life tells a registry of some packages that need each other, and that are built.
func Life() []Pack {
	return []Pack{
		{Name: "app", Version: "1.0.0", Needs: []string{"lib ^1.0.0"}, Files: []api.File{File("main", "app one"), Script("write version \"$version\"")}},
		{Name: "app", Version: "2.0.0", Needs: []string{"lib ^2.0.0", "log *"}, Files: []api.File{File("main", strings.Repeat("app two ", 30))}},
		{Name: "lib", Version: "1.0.0", Files: []api.File{File("src/code", "lib one")}},
		{Name: "lib", Version: "1.5.0", Files: []api.File{File("src/code", "lib one and a half"), Script("copy src out", "repeat 3", "append out/log \"$name \"", "end")}},
		{Name: "lib", Version: "2.0.0", Needs: []string{"log ^1.0.0"}, Files: []api.File{File("src/code", strings.Repeat("lib two ", 50))}},
		{Name: "log", Version: "1.0.0"},
		{Name: "log", Version: "1.1.0-rc.1", Files: []api.File{File("x", "y")}},
		{Name: "bad", Version: "1.0.0", Files: []api.File{Script("write half \"done\"", "fail \"no\"")}},
		{Name: "odd", Version: "1.0.0", Needs: []string{"lib <1.0.0"}},
	}
}
