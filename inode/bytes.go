package inode

import (
	"strings"

	"cooperage/api"
)

// fileAt returns the file with a number, if a place, or a length, in it may be such a number.
func (t *Table) fileAt(id, at int) (*node, api.Errno) {
	n, e := t.file(id)
	if e != api.OK {
		return nil, e
	}
	if at < 0 {
		return nil, api.ErrArg
	}
	return n, api.OK
}

// Read are bytes of a file.
func (t *Table) Read(id, at, n int) (string, api.Errno) {
	f, e := t.fileAt(id, min(at, n))
	if e != api.OK {
		return "", e
	}
	rest := f.data[min(at, len(f.data)):]
	return rest[:min(n, len(rest))], api.OK
}

// Write puts bytes into a file.
func (t *Table) Write(id, at int, s string) api.Errno {
	f, e := t.fileAt(id, at)
	if e != api.OK {
		return e
	}
	if at > api.MaxFile-len(s) { // so put that no sum is too great for an int
		return api.ErrFull
	}
	if s == "" {
		return api.OK
	}
	end := at + len(s)
	if !t.fits(f, end) {
		return api.ErrSpace
	}
	behind := f.data[min(end, len(f.data)):]
	t.set(f, f.first(at)+s+behind)
	return api.OK
}

// Truncate lets a file have so many bytes.
func (t *Table) Truncate(id, n int) api.Errno {
	f, e := t.fileAt(id, n)
	if e != api.OK {
		return e
	}
	if n > api.MaxFile {
		return api.ErrFull
	}
	if !t.fits(f, n) {
		return api.ErrSpace
	}
	t.set(f, f.first(n))
	return api.OK
}

// first returns the first so many bytes of a file, and bytes 0 where it has none.
func (n *node) first(length int) string {
	if length <= len(n.data) {
		return n.data[:length]
	}
	return n.data + strings.Repeat("\x00", length-len(n.data))
}

// fits tells whether there is space for a file of that length.
func (t *Table) fits(f *node, length int) bool {
	return length-len(f.data) <= t.quota-t.used
}

// set gives a file other bytes.
func (t *Table) set(f *node, data string) {
	t.used += len(data) - len(f.data)
	f.data = data
}

// Hold lets a file stay, names or not, and Drop lets it go.
func (t *Table) Hold(id int) api.Errno {
	f, e := t.file(id)
	if e != api.OK {
		return e
	}
	if f.holds == maxHolds {
		return api.ErrFull
	}
	f.holds++
	return api.OK
}

// Drop takes one hold away, and the file with it if nothing else keeps it.
func (t *Table) Drop(id int) api.Errno {
	n, e := t.inode(id)
	if e != api.OK {
		return e
	}
	if n.holds == 0 { // as in each directory, for none is ever held
		return api.ErrArg
	}
	n.holds--
	t.release(id)
	return api.OK
}
