package oplog_test

import (
	"fmt"
	"slices"
	"strings"
	"testing"

	"cooperage/api"
	"cooperage/oplog"
	"cooperage/simfs"
)

// disk is a new disk of that quota.
func disk(t *testing.T, quota int) *oplog.Disk {
	t.Helper()
	d, e := oplog.New(quota)
	if d == nil || e != api.OK {
		t.Fatalf("New(%d): %v %d", quota, d, e)
	}
	return d
}

// filled is a disk on which an owner has done operations, each of which has to be OK.
func filled(t *testing.T, owner int, ops ...api.Op) *oplog.Disk {
	t.Helper()
	d := disk(t, 1<<16)
	all(t, d, owner, ops...)
	return d
}

// all does operations, each of which has to be OK.
func all(t *testing.T, d *oplog.Disk, owner int, ops ...api.Op) {
	t.Helper()
	for _, op := range ops {
		if r := d.Do(owner, op); r.Err != api.OK {
			t.Fatalf("owner %d, %+v: %+v", owner, op, r)
		}
	}
}

// want does an operation, and holds its result and the log's length behind it against those that are asked for.
func want(t *testing.T, d *oplog.Disk, owner int, op api.Op, asked api.Res, logged int) {
	t.Helper()
	if got := d.Do(owner, op); !same(got, asked) || d.Logged() != logged {
		t.Errorf("owner %d, %+v: %+v, log %d; not %+v, log %d", owner, op, got, d.Logged(), asked, logged)
	}
}

// same tells whether two results are, however empty lists are written.
func same(a, b api.Res) bool {
	return a.Err == b.Err && a.N == b.N && a.Data == b.Data && slices.Equal(a.Names, b.Names)
}

// system is what disks, and file systems, have.
type system interface {
	Do(owner int, op api.Op) api.Res
	Files() []api.File
	Used() int
	Owners() []int
}

// seen is all that can be seen of a system without a change: files, usage, owners, and what their handles read.
func seen(f system) string {
	var b strings.Builder
	fmt.Fprintf(&b, "%#v %d", f.Files(), f.Used())
	for _, owner := range f.Owners() {
		for h := range 10 {
			if r := f.Do(owner, read(h)); r.Err != api.ErrHandle {
				fmt.Fprintf(&b, ", %d.%d %q", owner, h, r.Data)
			}
		}
	}
	return b.String()
}

func mkdir(p string) api.Op      { return api.Op{Kind: api.OpMkdir, Path: p} }
func rmdir(p string) api.Op      { return api.Op{Kind: api.OpRmdir, Path: p} }
func create(p string) api.Op     { return api.Op{Kind: api.OpCreate, Path: p} }
func open(p string) api.Op       { return api.Op{Kind: api.OpOpen, Path: p} }
func unlink(p string) api.Op     { return api.Op{Kind: api.OpUnlink, Path: p} }
func list(p string) api.Op       { return api.Op{Kind: api.OpList, Path: p} }
func link(p, to string) api.Op   { return api.Op{Kind: api.OpLink, Path: p, To: to} }
func rename(p, to string) api.Op { return api.Op{Kind: api.OpRename, Path: p, To: to} }
func shut(h int) api.Op          { return api.Op{Kind: api.OpClose, H: h} }
func size(h int) api.Op          { return api.Op{Kind: api.OpSize, H: h} }
func trunc(h, n int) api.Op      { return api.Op{Kind: api.OpTrunc, H: h, N: n} }
func read(h int) api.Op          { return api.Op{Kind: api.OpRead, H: h, N: api.MaxFile} }

func write(h, at int, s string) api.Op { return api.Op{Kind: api.OpWrite, H: h, At: at, Data: s} }

// sync is the operation after which all is sure.
func sync() api.Op { return api.Op{Kind: api.OpSync} }

func TestOl1New(t *testing.T) {
	for _, q := range []int{64, 65, 1 << 20, api.MaxQuota - 1, api.MaxQuota} {
		d := disk(t, q)
		want(t, d, 1, list(""), api.Res{}, 0)
		if s := seen(d); s != "[]api.File(nil) 64" {
			t.Errorf("New(%d): %s", q, s)
		}
	}
	for _, q := range []int{-api.MaxInt - 1, -64, -1, 0, 1, 63, api.MaxQuota + 1, api.MaxInt} {
		if d, e := oplog.New(q); d != nil || e != api.ErrArg {
			t.Errorf("New(%d): %v %d", q, d, e)
		}
	}
}

// TestOl1Quota: the quota holds ahead of a cut, and behind it.
func TestOl1Quota(t *testing.T) {
	d := disk(t, 64*3)
	for range 3 {
		want(t, d, 1, create("a"), api.Res{N: 1}, 1)
		want(t, d, 1, write(1, 64, "x"), api.Res{Err: api.ErrSpace}, 1)
		want(t, d, 1, mkdir("b"), api.Res{}, 2)
		want(t, d, 1, mkdir("c"), api.Res{Err: api.ErrSpace}, 2)
		d.Cut(0)
	}
}

func TestOl2NilAndZero(t *testing.T) {
	for what, d := range map[string]*oplog.Disk{"nil": nil, "zero": {}, "new": new(oplog.Disk)} {
		for range 2 {
			for kind := -1; kind <= 16; kind++ {
				for _, p := range []string{"", "a", "/"} {
					want(t, d, 1, api.Op{Kind: kind, Path: p, To: "b", H: 1}, api.Res{Err: api.ErrArg}, 0)
				}
			}
			d.Exit(1)
			for _, keep := range []int{-1, 0, 1} {
				if e := d.Cut(keep); e != api.ErrArg {
					t.Errorf("%s: %d", what, e)
				}
			}
			if d.Owners() != nil || d.Files() != nil || d.Used() != 0 || d.Logged() != 0 || d.Clone() != nil {
				t.Errorf("%s: %v %v %d %d %v", what, d.Owners(), d.Files(), d.Used(), d.Logged(), d.Clone())
			}
		}
	}
}

// TestOl1Logged: what is logged, and what is not, though it is OK.
func TestOl1Logged(t *testing.T) {
	d := disk(t, 1<<16)
	for _, x := range []struct {
		op     api.Op
		asked  api.Res
		logged int
	}{
		{mkdir("d"), api.Res{}, 1},
		{create("d/a"), api.Res{N: 1}, 2},
		{open("d/a"), api.Res{N: 2}, 3}, // though only handles change
		{write(2, 1, "bc"), api.Res{}, 4},
		{write(2, 9, ""), api.Res{}, 5}, // OK, and nothing changes
		{read(1), api.Res{Data: "\x00bc"}, 5},
		{size(1), api.Res{N: 3}, 5},
		{list("d"), api.Res{Names: []string{"a"}}, 5},
		{trunc(1, 2), api.Res{}, 6},
		{trunc(1, 2), api.Res{}, 7},
		{link("d/a", "b"), api.Res{}, 8},
		{rename("b", "b"), api.Res{}, 9},
		{rename("b", "d/a"), api.Res{}, 10}, // one inode
		{rename("b", "c"), api.Res{}, 11},
		{shut(2), api.Res{}, 12},
		{unlink("c"), api.Res{}, 13},
		{unlink("d/a"), api.Res{}, 14},
		{rmdir("d"), api.Res{}, 15},
		{list(""), api.Res{}, 15},
		{read(1), api.Res{Data: "\x00b"}, 15},
		{shut(1), api.Res{}, 16},
		{sync(), api.Res{}, 0},
		{sync(), api.Res{}, 0},
		{mkdir("d"), api.Res{}, 1},
	} {
		want(t, d, 1, x.op, x.asked, x.logged)
	}
}

// TestOl1Refused: what is refused is not logged.
func TestOl1Refused(t *testing.T) {
	d := filled(t, 1, mkdir("d"), create("f"), sync(), mkdir("e"))
	before := seen(d)
	for _, x := range []struct {
		op api.Op
		e  api.Errno
	}{
		{mkdir("d"), api.ErrExist}, {mkdir("/"), api.ErrArg}, {rmdir("x"), api.ErrNone}, {rmdir("f"), api.ErrKind}, {create("f"), api.ErrExist}, {create(""), api.ErrArg}, {open("d"), api.ErrKind}, {open("x"), api.ErrNone},
		{shut(2), api.ErrHandle}, {read(0), api.ErrHandle}, {size(-1), api.ErrHandle}, {write(1, -1, "x"), api.ErrArg}, {write(1, api.MaxFile, "x"), api.ErrFull}, {write(1, 1<<16, "x"), api.ErrSpace}, {trunc(1, -1), api.ErrArg},
		{link("f", "d"), api.ErrExist}, {link("x", "y"), api.ErrNone}, {unlink("d"), api.ErrKind}, {rename("f", "d"), api.ErrKind}, {rename("f", ".."), api.ErrArg}, {list("f"), api.ErrKind}, {list("/"), api.ErrArg},
		{api.Op{}, api.ErrArg}, {api.Op{Kind: -1}, api.ErrArg}, {api.Op{Kind: api.OpAlive, Pid: 1, Birth: 1}, api.ErrArg}, {api.Op{Kind: 16}, api.ErrArg}, {api.Op{Kind: api.MaxInt}, api.ErrArg}, {api.Op{Kind: -api.MaxInt - 1}, api.ErrArg},
	} {
		want(t, d, 1, x.op, api.Res{Err: x.e}, 1)
	}
	if seen(d) != before {
		t.Errorf("%s, not %s", seen(d), before)
	}
}

// TestOl1Sync: whoever syncs, and whatever else the operation says, all is sure, of whomever.
func TestOl1Sync(t *testing.T) {
	for _, op := range []api.Op{sync(), {Kind: api.OpSync, Path: "/..", To: "\x00", H: -1, At: -1, N: -1, Data: "x", Pid: -1, Birth: -1}} {
		for _, owner := range []int{1, 2, -api.MaxInt - 1, api.MaxInt} {
			d := filled(t, 1, create("a"), write(1, 0, "abc"), mkdir("d"))
			all(t, d, 2, open("a"), write(1, 3, "def"))
			before := seen(d)
			want(t, d, owner, op, api.Res{}, 0)
			if seen(d) != before {
				t.Errorf("%s, not %s", seen(d), before)
			}
			d.Cut(0)
			if l := d.Files(); !slices.Equal(l, []api.File{{Path: "a", Data: "abcdef"}, {Path: "d", Dir: true}}) {
				t.Error(l)
			}
		}
	}
}

// TestOl1Exit: an exit is logged only if it closed something.
func TestOl1Exit(t *testing.T) {
	d := disk(t, 1<<16)
	exit := func(owner, logged int, owners ...int) {
		t.Helper()
		d.Exit(owner)
		if d.Logged() != logged || !slices.Equal(d.Owners(), owners) {
			t.Errorf("Exit(%d): log %d, owners %v; not %d, %v", owner, d.Logged(), d.Owners(), logged, owners)
		}
	}
	exit(1, 0)
	all(t, d, 1, create("a"))
	all(t, d, -5, open("a"), open("a"), shut(1))
	want(t, d, 3, open("x"), api.Res{Err: api.ErrNone}, 4)
	exit(3, 4, -5, 1)
	exit(-5, 5, 1)
	exit(-5, 5, 1)
	exit(1, 6)
	exit(1, 6)
	for range 8 {
		all(t, d, 1, open("a"))
	}
	for h := range 7 { // the last one is enough
		all(t, d, 1, shut(h+1))
	}
	want(t, d, 1, sync(), api.Res{}, 0)
	exit(1, 1)
	exit(1, 1)
	all(t, d, 2, open("a"), shut(1))
	exit(2, 3)
	all(t, d, 2, open("a"), sync()) // nor is a handle needed that came behind the sync
	exit(2, 1)
}

// TestOl1ManyOwners: so many owners leave, one by one, that none of them may take long.
func TestOl1ManyOwners(t *testing.T) {
	d := filled(t, -1, create("a"), shut(1), sync())
	for owner := range 1 << 15 {
		all(t, d, owner, open("a"))
	}
	for owner := range 1 << 15 {
		d.Exit(owner)
	}
	if d.Logged() != 1<<16 || len(d.Owners()) != 0 {
		t.Error(d.Logged(), len(d.Owners()))
	}
}

// TestOl1AsLayer9: but for syncs, a disk answers as a file system does.
func TestOl1AsLayer9(t *testing.T) {
	d := disk(t, 64*5+4)
	f, _ := simfs.New(64*5 + 4)
	for k, op := range []api.Op{create("b"), mkdir("a"), create("a/x"), write(1, 0, "abcd"), write(2, 0, "e"), read(1), open("b"), list(""), list("a"), size(3), trunc(1, 2), write(2, 0, "e"), unlink("b"), shut(1), list("x"), rename("a/x", "a/y"), link("a/y", "z"), mkdir("c"), mkdir("d"), rmdir("c"), shut(9)} {
		for owner := range 3 {
			if a, b := d.Do(owner, op), f.Do(owner, op); !same(a, b) || seen(d) != seen(f) {
				t.Errorf("%d, owner %d, %+v: %+v, not %+v; %s, not %s", k, owner, op, a, b, seen(d), seen(f))
			}
		}
		if k%3 == 0 {
			all(t, d, 1, sync())
		}
	}
	d.Exit(1)
	f.Exit(1)
	if seen(d) != seen(f) {
		t.Errorf("%s, not %s", seen(d), seen(f))
	}
}

// TestOl1Clone: a clone has the same log, and neither it nor what it was made of changes with the other one.
func TestOl1Clone(t *testing.T) {
	d := filled(t, 1, mkdir("run"), create("a"), sync(), write(1, 0, "abc"), create("run/b"), write(1, 3, "def"))
	c := d.Clone()
	first := seen(d)
	if c == d || seen(c) != first || c.Logged() != 3 {
		t.Errorf("%s, log %d; not %s", seen(c), c.Logged(), first)
	}
	all(t, d, 1, trunc(1, 1), unlink("a"))
	if seen(c) != first || c.Logged() != 3 {
		t.Errorf("a clone changed with what it was made of: %s, log %d", seen(c), c.Logged())
	}
	all(t, c, 2, create("other"), write(1, 0, "x"), mkdir("third")) // in the places of the log where d has its own
	second := seen(d)
	both := func(keep int, ofD, ofC []api.File) {
		t.Helper()
		x, y := d.Clone(), c.Clone()
		x.Cut(keep)
		y.Cut(keep)
		if !slices.Equal(x.Files(), ofD) || !slices.Equal(y.Files(), ofC) {
			t.Errorf("%d: %v %v, not %v %v", keep, x.Files(), y.Files(), ofD, ofC)
		}
	}
	run := api.File{Path: "run", Dir: true}
	both(1, []api.File{{Path: "a", Data: "abc"}, run}, []api.File{{Path: "a", Data: "abc"}, run})
	both(4, []api.File{{Path: "a", Data: "a"}, run}, []api.File{{Path: "a", Data: "abcdef"}, {Path: "other"}, run})
	both(9, []api.File{run}, []api.File{{Path: "a", Data: "abcdef"}, {Path: "other", Data: "x"}, run, {Path: "third", Dir: true}})
	all(t, c, 1, sync())
	c.Cut(0)
	if seen(d) != second || d.Logged() != 5 {
		t.Errorf("what a clone was made of changed with it: %s, log %d; not %s", seen(d), d.Logged(), second)
	}
	all(t, d, 1, sync())
	e := d.Clone()
	all(t, e, 1, mkdir("e"))
	d.Cut(0)
	want(t, e, 1, read(1), api.Res{Data: "a"}, 1)
	e.Cut(0)
	if !slices.Equal(e.Files(), []api.File{run}) {
		t.Error(e.Files())
	}
}

// TestR3NewMemory: lists that were handed out may be changed without an effect.
func TestR3NewMemory(t *testing.T) {
	d := filled(t, 1, mkdir("d"), create("d/a"), create("d/b"))
	before := seen(d)
	d.Do(1, list("d")).Names[0] = "x"
	d.Files()[0] = api.File{Path: "x"}
	d.Owners()[0] = 9
	want(t, d, 1, list("d"), api.Res{Names: []string{"a", "b"}}, 3)
	if seen(d) != before {
		t.Errorf("%s, not %s", seen(d), before)
	}
}
