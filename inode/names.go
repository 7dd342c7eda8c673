package inode

import (
	"maps"
	"slices"
	"strings"

	"cooperage/api"
)

// isName tells whether a text may be a name in a directory.
func isName(s string) bool {
	if s == "" || s == "." || s == ".." {
		return false
	}
	return len(s) <= api.MaxName && !strings.ContainsAny(s, "\x00/")
}

// place returns the directory in which a name may stand.
func (t *Table) place(dir int, name string) (*node, api.Errno) {
	d, e := t.directory(dir)
	if e != api.OK {
		return nil, e
	}
	if !isName(name) {
		return nil, api.ErrArg
	}
	return d, api.OK
}

// newPlace returns the directory in which a name may stand, but does not yet.
func (t *Table) newPlace(dir int, name string) (*node, api.Errno) {
	d, e := t.place(dir, name)
	if e != api.OK {
		return nil, e
	}
	if _, there := d.names[name]; there {
		return nil, api.ErrExist
	}
	return d, api.OK
}

// entry returns the directory in which a name stands, and the number of the inode to which it leads.
func (t *Table) entry(dir int, name string) (*node, int, api.Errno) {
	d, e := t.place(dir, name)
	if e != api.OK {
		return nil, 0, e
	}
	id, there := d.names[name]
	if !there {
		return nil, 0, api.ErrNone
	}
	return d, id, api.OK
}

// entryOf is entry for a name that leads to a directory, or to a file, as is asked.
func (t *Table) entryOf(dir int, name string, isDir bool) (*node, int, api.Errno) {
	d, id, e := t.entry(dir, name)
	if e != api.OK {
		return nil, 0, e
	}
	if t.nodes[id].dir != isDir {
		return nil, 0, api.ErrKind
	}
	return d, id, api.OK
}

// Make makes a file, or a directory, with a name in a directory.
func (t *Table) Make(dir int, name string, isDir bool) (int, api.Errno) {
	d, e := t.newPlace(dir, name)
	if e != api.OK {
		return 0, e
	}
	if len(t.nodes) >= api.MaxInodes {
		return 0, api.ErrFull
	}
	if api.NodeCost > t.quota-t.used {
		return 0, api.ErrSpace
	}
	id := t.add(isDir)
	d.names[name] = id
	return id, api.OK
}

// Find is what a name in a directory leads to.
func (t *Table) Find(dir int, name string) (int, api.Errno) {
	_, id, e := t.entry(dir, name)
	return id, e
}

// Link gives a file one more name.
func (t *Table) Link(id, dir int, name string) api.Errno {
	n, e := t.file(id)
	if e != api.OK {
		return e
	}
	d, e := t.newPlace(dir, name)
	if e != api.OK {
		return e
	}
	d.names[name] = id
	n.links++
	return api.OK
}

// Unlink takes a file's name away.
func (t *Table) Unlink(dir int, name string) api.Errno {
	d, id, e := t.entryOf(dir, name, false)
	if e != api.OK {
		return e
	}
	delete(d.names, name)
	t.loseLink(id)
	return api.OK
}

// loseLink counts that a name leads to a file no more.
func (t *Table) loseLink(id int) {
	t.nodes[id].links--
	t.release(id)
}

// Remove takes an empty directory away.
func (t *Table) Remove(dir int, name string) api.Errno {
	d, id, e := t.entryOf(dir, name, true)
	if e != api.OK {
		return e
	}
	if len(t.nodes[id].names) > 0 {
		return api.ErrBusy
	}
	delete(d.names, name)
	t.remove(id)
	return api.OK
}

// Rename gives a file another name, and takes this from another file that had it.
func (t *Table) Rename(dir int, name string, to int, as string) api.Errno {
	from, id, e := t.entryOf(dir, name, false)
	if e != api.OK {
		return e
	}
	d, e := t.place(to, as)
	if e != api.OK {
		return e
	}
	old, there := d.names[as]
	if there && t.nodes[old].dir {
		return api.ErrKind
	}
	if there && old == id { // else a file would lose one of its two names, or its only one
		return api.OK
	}
	d.names[as] = id
	delete(from.names, name)
	if there {
		t.loseLink(old)
	}
	return api.OK
}

// List are the names in a directory, in order.
func (t *Table) List(dir int) ([]string, api.Errno) {
	d, e := t.directory(dir)
	if e != api.OK {
		return nil, e
	}
	return slices.Sorted(maps.Keys(d.names)), api.OK
}
