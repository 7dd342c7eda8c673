package oplog

import (
	"slices"

	"cooperage/api"
	"cooperage/paths"
	"cooperage/simfs"
)

// Cut is a power failure that keeps so many of the operations that are not sure.
func (d *Disk) Cut(keep int) api.Errno {
	if !d.isMade() {
		return api.ErrArg
	}
	f := d.sure
	repeat(f, d.log[:max(0, min(keep, len(d.log)))])
	exitAll(f)
	empty(f, api.Volatile)
	d.now, d.sure, d.log = f, f.Clone(), nil
	return api.OK
}

// exitAll closes all handles.
func exitAll(f *simfs.FS) {
	for _, owner := range f.Owners() {
		f.Exit(owner)
	}
}

// empty removes all that is under a directory, but not the directory itself.
func empty(f *simfs.FS, dir string) {
	for _, file := range slices.Backward(f.Files()) { // so that each directory is empty when its turn comes
		if !paths.Under(file.Path, dir) {
			continue
		}
		op := api.Op{Kind: api.OpUnlink, Path: file.Path}
		if file.Dir {
			op.Kind = api.OpRmdir
		}
		f.Do(0, op) // whose it is does not matter: it takes no handle
	}
}
