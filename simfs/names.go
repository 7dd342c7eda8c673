package simfs

import (
	"cooperage/api"
	"cooperage/inode"
	"cooperage/paths"
)

const root = 1 // the inode from which paths lead on

// find returns the inode to which a path leads.
func (f *FS) find(path string) (int, api.Errno) {
	id := root
	for _, name := range paths.Parts(path) {
		next, e := f.table.Find(id, name)
		if e != api.OK {
			return 0, e
		}
		id = next
	}
	return id, api.OK
}

// place returns what all names of a path but the last one lead to, and the last one.
func (f *FS) place(path string) (int, string, api.Errno) {
	outer, name := paths.Split(path)
	dir, e := f.find(outer)
	return dir, name, e
}

// create makes a file, or a directory, at a path, and returns its inode.
func (f *FS) create(path string, isDir bool) (int, api.Errno) {
	dir, name, e := f.place(path)
	if e != api.OK {
		return 0, e
	}
	return f.table.Make(dir, name, isDir)
}

// change does something to the last name of a path.
func (f *FS) change(path string, do func(dir int, name string) api.Errno) api.Errno {
	dir, name, e := f.place(path)
	if e != api.OK {
		return e
	}
	return do(dir, name)
}

// link gives the file at a path one more name.
func (f *FS) link(path, to string) api.Errno {
	id, e := f.find(path)
	if e != api.OK {
		return e
	}
	return f.change(to, func(dir int, name string) api.Errno { return f.table.Link(id, dir, name) })
}

// rename gives a file another name, and takes this from another file that had it.
func (f *FS) rename(path, to string) api.Errno {
	from, name, e := f.place(path)
	if e != api.OK {
		return e
	}
	return f.change(to, func(dir int, as string) api.Errno { return f.table.Rename(from, name, dir, as) })
}

// list returns the names in the directory at a path.
func (f *FS) list(path string) ([]string, api.Errno) {
	dir, e := f.find(path)
	if e != api.OK {
		return nil, e
	}
	return f.table.List(dir)
}

// Files are all files and directories but the root, in the order of their paths.
func (f *FS) Files() []api.File {
	if !f.isMade() {
		return nil
	}
	return appendFiles(nil, f.table, root, "")
}

// appendFiles appends all that is under a directory. As names come in order, and each directory ahead of what is under it, so do paths.
func appendFiles(list []api.File, table *inode.Table, dir int, path string) []api.File {
	names, _ := table.List(dir) // no error: only directories come here
	for _, name := range names {
		id, _ := table.Find(dir, name)
		data, e := table.Read(id, 0, api.MaxFile)
		file := api.File{Path: paths.Join(path, name), Dir: e == api.ErrKind, Data: data}
		list = append(list, file)
		if file.Dir {
			list = appendFiles(list, table, id, file.Path)
		}
	}
	return list
}
