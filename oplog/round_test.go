package oplog_test

import (
	"math/rand"
	"slices"
	"strings"
	"testing"

	"cooperage/api"
	"cooperage/oplog"
	"cooperage/simfs"
)

// album is a disk of another make: it keeps a picture of the file system at the last sync and behind each operation since, and repeats nothing.
type album struct{ pictures []*simfs.FS }

func newAlbum(quota int) *album {
	f, _ := simfs.New(quota)
	return &album{[]*simfs.FS{f}}
}

// now is the file system as it is; nobody may change it.
func (a *album) now() *simfs.FS { return a.pictures[len(a.pictures)-1] }

func (a *album) clone() *album { return &album{slices.Clone(a.pictures)} }

func (a *album) do(owner int, op api.Op) api.Res {
	if op.Kind == api.OpSync {
		a.pictures = []*simfs.FS{a.now()}
		return api.Res{}
	}
	next := a.now().Clone()
	r := next.Do(owner, op)
	if r.Err == api.OK && op.Kind != api.OpRead && op.Kind != api.OpSize && op.Kind != api.OpList {
		a.pictures = append(a.pictures, next)
	}
	return r
}

func (a *album) exit(owner int) {
	if slices.Contains(a.now().Owners(), owner) {
		next := a.now().Clone()
		next.Exit(owner)
		a.pictures = append(a.pictures, next)
	}
}

// cut takes a picture, and tears what is under run off until nothing more can be.
func (a *album) cut(keep int) {
	f := a.pictures[min(max(keep, 0), len(a.pictures)-1)].Clone()
	for _, owner := range f.Owners() {
		for h := range 9 {
			f.Do(owner, shut(h))
		}
	}
	for more := true; more; {
		more = false
		for _, x := range f.Files() {
			if strings.HasPrefix(x.Path, "run/") && (f.Do(7, unlink(x.Path)).Err == api.OK || f.Do(7, rmdir(x.Path)).Err == api.OK) {
				more = true
			}
		}
	}
	a.pictures = []*simfs.FS{f}
}

// hold holds all that can be seen of a disk against an album.
func (a *album) hold(t *testing.T, d *oplog.Disk) {
	t.Helper()
	if x, y := seen(d), seen(a.now()); x != y || d.Logged() != len(a.pictures)-1 {
		t.Fatalf("%s, log %d; not %s, log %d", x, d.Logged(), y, len(a.pictures)-1)
	}
}

// anyOp is an operation that often can be done.
func anyOp(r *rand.Rand) api.Op {
	anyPath := func() string {
		names := []string{"a", "b", "run", "run-", "run/a", "run/b", "run/d", "run/d/a", "run/d/d", "run/d/d/a", "d", "d/run", "d/run/a", "x", "/"}
		return names[r.Intn(len(names))]
	}
	op := api.Op{Kind: r.Intn(17), Path: anyPath(), To: anyPath(), H: 1 + r.Intn(4), At: r.Intn(9), N: r.Intn(12), Data: "0123456789"[:r.Intn(10)], Pid: r.Intn(3), Birth: r.Intn(3)}
	if op.Kind == api.OpSync && r.Intn(6) > 0 {
		op.Kind = api.OpMkdir
	}
	return op
}

// TestOl2Random holds random operations, exits, cuts and clones, call by call, against an album, and at the end each cut that is possible.
func TestOl2Random(t *testing.T) {
	longest, kept := 0, 0
	for seed := range int64(100) {
		r := rand.New(rand.NewSource(seed))
		quota := 64*(4+r.Intn(12)) + r.Intn(64)
		d, a := disk(t, quota), newAlbum(quota)
		others, albums := []*oplog.Disk{d.Clone()}, []*album{a.clone()}
		for range 500 {
			owner := []int{1, 1, 2, -3, 1 << 40}[r.Intn(5)]
			switch r.Intn(100) {
			case 0:
				keep := r.Intn(d.Logged()+3) - 1
				longest, kept = max(longest, d.Logged()), kept+min(max(keep, 0), d.Logged())
				if e := d.Cut(keep); e != api.OK {
					t.Fatal(seed, e)
				}
				a.cut(keep)
			case 1, 2, 3:
				d.Exit(owner)
				a.exit(owner)
			case 4: // go on with a clone, or with what it was made of
				others, albums = append(others, d.Clone()), append(albums, a.clone())
				k := r.Intn(len(others))
				d, others[k] = others[k], d
				a, albums[k] = albums[k], a
			}
			op := anyOp(r)
			asked := a.do(owner, op)
			if got := d.Do(owner, op); !same(got, asked) {
				t.Fatalf("seed %d, owner %d, %+v: %+v, not %+v", seed, owner, op, got, asked)
			}
			a.hold(t, d)
		}
		for k, d := range append(others, d) {
			a := append(albums, a)[k]
			a.hold(t, d)
			for keep := -1; keep <= d.Logged()+1; keep++ {
				x, y := d.Clone(), a.clone()
				x.Cut(keep)
				y.cut(keep)
				y.hold(t, x)
			}
			a.hold(t, d)
		}
	}
	if longest < 20 || kept < 400 {
		t.Errorf("the longest log that was cut had %d, and %d operations were kept in all: too few", longest, kept)
	}
}

// TestOl3Prefix: a cut leaves what would be there if nothing had been done behind the operations that it keeps; and so the one that keeps more has done all that the other one has.
func TestOl3Prefix(t *testing.T) {
	for seed := range int64(30) {
		r := rand.New(rand.NewSource(seed))
		d := filled(t, 1, mkdir("run"), mkdir("d"), create("a"), create("run/b"), sync())
		before := []*oplog.Disk{d.Clone()} // one more for each operation that was logged
		for range 100 {
			owner, op := 1+r.Intn(2), anyOp(r)
			if op.Kind == api.OpSync {
				continue
			}
			if d.Do(owner, op); d.Logged() == len(before) {
				before = append(before, d.Clone())
			}
		}
		for keep, x := range before {
			c := d.Clone()
			c.Cut(keep)
			x.Cut(keep)
			if seen(c) != seen(x) {
				t.Errorf("seed %d, keep %d: %s, not %s", seed, keep, seen(c), seen(x))
			}
		}
	}
}
