package tree

import (
	"slices"

	"haversack/api"
	"haversack/path"
)

// file tells p's clean path, where a file may be: no directory, and below none but directories.
func (t *Tree) file(p string) (string, api.Errno) {
	p, e := path.Clean(p)
	if e != api.OK {
		return "", e
	}
	if t.isDir(p) || t.fileAhead(p) {
		return "", api.ErrKind
	}
	return p, api.OK
}

// put makes p, where a file may be, a file of old, its bytes until now, and b behind them.
func (t *Tree) put(p string, old, b []byte) api.Errno {
	more := t.lacking(path.Parent(p))
	if !t.has(p) {
		more++
	}
	n := len(old) + len(b)
	if n > api.MaxFile || !t.room(more, n-len(t.nodes[p].b)) {
		return api.ErrSpace
	}
	t.makeDirs(path.Parent(p))
	t.set(p, node{b: append(old, b...)})
	return api.OK
}

// room tells whether the tree may have so many files and directories, and bytes, more.
func (t *Tree) room(nodes, bytes int) bool {
	return len(t.nodes)+nodes <= api.MaxFiles && t.size+bytes <= api.MaxTree
}

func (t *Tree) has(p string) bool {
	_, ok := t.nodes[p]
	return ok || p == ""
}

func (t *Tree) isDir(p string) bool { return p == "" || t.nodes[p].dir }

func (t *Tree) isFile(p string) bool { return t.has(p) && !t.isDir(p) }

// fileAhead tells whether a part ahead of p's last is a file.
func (t *Tree) fileAhead(p string) bool {
	for p != "" {
		p = path.Parent(p)
		if t.isFile(p) {
			return true
		}
	}
	return false
}

// lacking tells how many of p and the directories ahead of it aren't there.
func (t *Tree) lacking(p string) int {
	n := 0
	for ; !t.has(p); p = path.Parent(p) {
		n++
	}
	return n
}

// makeDirs makes what lacks of p and the directories ahead of it.
func (t *Tree) makeDirs(p string) {
	for ; !t.has(p); p = path.Parent(p) {
		t.set(p, node{dir: true})
	}
}

// within tells p, if it is there, and all that is below it, in order.
func (t *Tree) within(p string) []string {
	var out []string
	for q := range t.nodes {
		if path.Within(q, p) {
			out = append(out, q)
		}
	}
	slices.Sort(out)
	return out
}

func (t *Tree) set(p string, n node) {
	t.size += len(n.b) - len(t.nodes[p].b)
	t.nodes[p] = n
}

func (t *Tree) drop(p string) {
	t.size -= len(t.nodes[p].b)
	delete(t.nodes, p)
}
