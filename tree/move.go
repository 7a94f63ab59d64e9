package tree

import (
	"slices"

	"haversack/api"
	"haversack/path"
)

// Rename moves from, with all that is in it, to to.
func (t *Tree) Rename(from, to string) api.Errno {
	m, e := t.plan(from, to)
	if e != api.OK {
		return e
	}
	if !t.room(m.dirs, 0) {
		return api.ErrSpace
	}
	m.do(func(p, q string, n node) {
		t.drop(p)
		t.set(q, n)
	})
	return api.OK
}

// Copy puts what from is, with all that is in it, at to, too.
func (t *Tree) Copy(from, to string) api.Errno {
	m, e := t.plan(from, to)
	if e != api.OK {
		return e
	}
	bytes := 0
	for _, p := range m.paths {
		bytes += len(t.nodes[p].b)
	}
	if !t.room(m.dirs+len(m.paths), bytes) {
		return api.ErrSpace
	}
	m.do(func(_, q string, n node) { t.set(q, node{dir: n.dir, b: slices.Clone(n.b)}) })
	return api.OK
}

// move: what goes from where to where in a tree.
type move struct {
	t        *Tree
	from, to string
	paths    []string // from, and all that is in it
	dirs     int      // how many directories lack ahead of to
}

// plan tells the move from from to to, if there may be one, whatever room it needs.
func (t *Tree) plan(from, to string) (move, api.Errno) {
	from, e := path.Clean(from)
	if e != api.OK {
		return move{}, e
	}
	to, e = path.Clean(to)
	switch {
	case e != api.OK:
		return move{}, e
	case !t.has(from):
		return move{}, api.ErrNone
	case path.Within(to, from): // of the root, too: all is below it
		return move{}, api.ErrKind
	case t.has(to):
		return move{}, api.ErrThere
	case t.fileAhead(to):
		return move{}, api.ErrKind
	}
	m := move{t: t, from: from, to: to, paths: t.within(from), dirs: t.lacking(path.Parent(to))}
	for _, p := range m.paths {
		if _, e := path.Clean(m.target(p)); e != api.OK {
			return move{}, api.ErrPath
		}
	}
	return m, api.OK
}

// target: where p, which is in from, goes.
func (m move) target(p string) string { return m.to + p[len(m.from):] }

// do makes the directories that lack, and hands each path, where it goes, and what it is, to each.
func (m move) do(each func(p, q string, n node)) {
	m.t.makeDirs(path.Parent(m.to))
	for _, p := range m.paths {
		each(p, m.target(p), m.t.nodes[p])
	}
}
