package simfs

import (
	"slices"

	"cooperage/api"
)

// none stands where no inode is: their numbers begin at 1.
const none = 0

// handles are the files that an owner holds: the inode of handle 1, that of handle 2, and so on.
type handles [api.MaxHandles]int

// open gives an owner a handle of a file, which is found, or made, only if the owner may have one more.
func (f *FS) open(owner int, file func() (int, api.Errno)) (int, api.Errno) {
	mine := f.held[owner]
	free := slices.Index(mine[:], none)
	if free < 0 {
		return 0, api.ErrFull
	}
	id, e := file()
	if e != api.OK {
		return 0, e
	}
	if e := f.table.Hold(id); e != api.OK {
		return 0, e
	}
	mine[free] = id
	f.held[owner] = mine
	return free + 1, api.OK
}

// file returns the inode of an owner's handle; none, if there is no such handle.
func (f *FS) file(owner, h int) int {
	if h < 1 || h > api.MaxHandles {
		return none
	}
	return f.held[owner][h-1]
}

// use does an operation through a handle.
func (f *FS) use(owner int, op api.Op) api.Res {
	id := f.file(owner, op.H)
	if id == none {
		return api.Res{Err: api.ErrHandle}
	}
	var r api.Res
	switch op.Kind {
	case api.OpClose:
		f.shut(owner, op.H)
	case api.OpRead:
		r.Data, r.Err = f.table.Read(id, op.At, op.N)
	case api.OpWrite:
		r.Err = f.table.Write(id, op.At, op.Data)
	case api.OpTrunc:
		r.Err = f.table.Truncate(id, op.N)
	case api.OpSize:
		r.N, r.Err = f.size(id)
	}
	return r
}

// size returns how many bytes a file has.
func (f *FS) size(id int) (int, api.Errno) {
	data, e := f.table.Read(id, 0, api.MaxFile)
	return len(data), e
}

// shut lets go of the file of an owner's handle, and forgets an owner without handles.
func (f *FS) shut(owner, h int) {
	mine := f.held[owner]
	f.table.Drop(mine[h-1])
	mine[h-1] = none
	if mine == (handles{}) {
		delete(f.held, owner)
		return
	}
	f.held[owner] = mine
}

// Exit closes all handles of an owner.
func (f *FS) Exit(owner int) {
	if !f.isMade() {
		return
	}
	for k, id := range f.held[owner] {
		if id != none {
			f.shut(owner, k+1)
		}
	}
}
