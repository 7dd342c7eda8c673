package simfs_test

import (
	"fmt"
	"reflect"
	"slices"
	"strings"
	"testing"

	"cooperage/api"
	"cooperage/paths"
	"cooperage/simfs"
)

// disk is a new file system of that quota.
func disk(t *testing.T, quota int) *simfs.FS {
	t.Helper()
	f, e := simfs.New(quota)
	if f == nil || e != api.OK {
		t.Fatalf("New(%d): %v %d", quota, f, e)
	}
	return f
}

// same tells whether two results are, however empty lists are written.
func same(a, b api.Res) bool {
	return a.Err == b.Err && a.N == b.N && a.Data == b.Data && slices.Equal(a.Names, b.Names)
}

// want does an operation, and holds its result against the one that is asked for.
func want(t *testing.T, f *simfs.FS, owner int, op api.Op, asked api.Res) {
	t.Helper()
	if got := f.Do(owner, op); !same(got, asked) {
		t.Errorf("owner %d, %+v: %+v, not %+v", owner, op, got, asked)
	}
}

// all does operations each of which has to be OK; what else they answer does not matter.
func all(t *testing.T, f *simfs.FS, owner int, ops ...api.Op) {
	t.Helper()
	for _, op := range ops {
		if r := f.Do(owner, op); r.Err != api.OK {
			t.Fatalf("owner %d, %+v: %+v", owner, op, r)
		}
	}
}

// seen is all that can be seen of a file system without a change: files, usage, owners, and what their handles read.
func seen(f *simfs.FS) string {
	var b strings.Builder
	for _, x := range f.Files() {
		fmt.Fprintf(&b, "%q %t %q, ", x.Path, x.Dir, x.Data)
	}
	fmt.Fprintf(&b, "%d", f.Used())
	for _, owner := range f.Owners() {
		for h := 1; h <= api.MaxHandles; h++ {
			r := f.Do(owner, read(h, 0, api.MaxFile))
			fmt.Fprintf(&b, ", %d.%d %d %q", owner, h, r.Err, r.Data)
		}
	}
	return b.String()
}

// refused does an operation that has to answer that error, and nothing else, and to change nothing.
func refused(t *testing.T, f *simfs.FS, owner int, op api.Op, e api.Errno) {
	t.Helper()
	before := seen(f)
	want(t, f, owner, op, api.Res{Err: e})
	if after := seen(f); after != before {
		t.Errorf("owner %d, %+v was refused, and changed %s to %s", owner, op, before, after)
	}
}

func mkdir(p string) api.Op  { return api.Op{Kind: api.OpMkdir, Path: p} }
func rmdir(p string) api.Op  { return api.Op{Kind: api.OpRmdir, Path: p} }
func create(p string) api.Op { return api.Op{Kind: api.OpCreate, Path: p} }
func open(p string) api.Op   { return api.Op{Kind: api.OpOpen, Path: p} }
func shut(h int) api.Op      { return api.Op{Kind: api.OpClose, H: h} }
func size(h int) api.Op      { return api.Op{Kind: api.OpSize, H: h} }
func trunc(h, n int) api.Op  { return api.Op{Kind: api.OpTrunc, H: h, N: n} }
func unlink(p string) api.Op { return api.Op{Kind: api.OpUnlink, Path: p} }
func list(p string) api.Op   { return api.Op{Kind: api.OpList, Path: p} }

func read(h, at, n int) api.Op { return api.Op{Kind: api.OpRead, H: h, At: at, N: n} }

func write(h, at int, s string) api.Op { return api.Op{Kind: api.OpWrite, H: h, At: at, Data: s} }

func link(p, to string) api.Op { return api.Op{Kind: api.OpLink, Path: p, To: to} }

func rename(p, to string) api.Op { return api.Op{Kind: api.OpRename, Path: p, To: to} }

func TestFs1New(t *testing.T) {
	for _, q := range []int{64, 65, 127, 1 << 20, api.MaxQuota - 1, api.MaxQuota} {
		f := disk(t, q)
		want(t, f, 1, list(""), api.Res{})
		if f.Used() != 64 || len(f.Files()) != 0 || len(f.Owners()) != 0 {
			t.Errorf("New(%d): %s", q, seen(f))
		}
	}
	for _, q := range []int{-api.MaxInt - 1, -api.MaxInt, -64, -1, 0, 1, 63, api.MaxQuota + 1, api.MaxInt} {
		if f, e := simfs.New(q); f != nil || e != api.ErrArg {
			t.Errorf("New(%d): %v %d", q, f, e)
		}
	}
}

func TestFs2NilAndZero(t *testing.T) {
	for what, f := range map[string]*simfs.FS{"nil": nil, "zero": {}, "new": new(simfs.FS)} {
		for range 2 {
			for kind := -1; kind <= 16; kind++ {
				for _, p := range []string{"", "a", "/"} {
					want(t, f, 1, api.Op{Kind: kind, Path: p, To: "b", H: 1}, api.Res{Err: api.ErrArg})
				}
			}
			f.Exit(1)
			if f.Owners() != nil || f.Files() != nil || f.Used() != 0 || f.Clone() != nil {
				t.Errorf("%s: %v %v %d %v", what, f.Owners(), f.Files(), f.Used(), f.Clone())
			}
		}
	}
}

func TestFs2Exit(t *testing.T) {
	f := disk(t, 1<<16)
	for k := range 5 {
		all(t, f, 1, create(fmt.Sprint("f", k)), write(k+1, 0, "abc"))
	}
	all(t, f, 2, open("f0"), open("f1"), open("f1"))
	all(t, f, 1, shut(2), unlink("f0"), unlink("f2"), unlink("f3"), shut(4))
	if f.Used() != 64*5+4*3 { // f3 is gone; f0 and f2 are held
		t.Error(f.Used())
	}
	files := f.Files()
	f.Exit(1)
	if f.Used() != 64*4+3*3 || !slices.Equal(f.Owners(), []int{2}) || !slices.Equal(f.Files(), files) {
		t.Error(seen(f))
	}
	for h := range 10 {
		for _, op := range []api.Op{shut(h), read(h, 0, 9), write(h, 0, "x"), trunc(h, 0), size(h)} {
			refused(t, f, 1, op, api.ErrHandle)
		}
	}
	want(t, f, 2, read(1, 0, 9), api.Res{Data: "abc"}) // f0 has no name, and one hold is left
	before := seen(f)
	for _, owner := range []int{1, 0, -1, 3, api.MaxInt, -api.MaxInt - 1} {
		f.Exit(owner)
	}
	if seen(f) != before {
		t.Errorf("Exit of those without handles: %s, ahead of it %s", seen(f), before)
	}
	want(t, f, 1, open("f1"), api.Res{N: 1})
	f.Exit(2)
	f.Exit(2)
	if f.Used() != 64*3+2*3 || !slices.Equal(f.Owners(), []int{1}) {
		t.Error(seen(f))
	}
	f.Exit(1)
	if f.Used() != 64*3+2*3 || len(f.Owners()) != 0 {
		t.Error(seen(f))
	}
}

func TestFs2Owners(t *testing.T) {
	f := disk(t, 1<<16)
	owners := []int{5, -1, api.MaxInt, 0, 17, -api.MaxInt - 1, 4, 1}
	all(t, f, 3, create("f"), shut(1))
	for k, owner := range owners {
		want(t, f, owner, open("none"), api.Res{Err: api.ErrNone})
		want(t, f, owner, open("f"), api.Res{N: 1})
		want(t, f, owner, open("f"), api.Res{N: 2})
		sorted := slices.Sorted(slices.Values(owners[:k+1]))
		if l := f.Owners(); !slices.Equal(l, sorted) {
			t.Errorf("%v, not %v", l, sorted)
		}
	}
	l := f.Owners()
	clear(l)
	for k, owner := range owners {
		all(t, f, owner, shut(2-k%2))
		if !slices.Contains(f.Owners(), owner) {
			t.Errorf("%d has a handle: %v", owner, f.Owners())
		}
		if k < 4 {
			all(t, f, owner, shut(1+k%2))
		} else {
			f.Exit(owner)
		}
		sorted := slices.Sorted(slices.Values(owners[k+1:]))
		if l := f.Owners(); !slices.Equal(l, sorted) {
			t.Errorf("%v, not %v", l, sorted)
		}
	}
}

// TestFs2Files makes files and directories whose names are ordered otherwise than their paths' bytes.
func TestFs2Files(t *testing.T) {
	f := disk(t, 1<<20)
	asked := []api.File{
		{Path: "\x01"}, {Path: " "}, {Path: "B"}, {Path: "a", Dir: true}, {Path: "a/b", Dir: true}, {Path: "a/b/c", Dir: true}, {Path: "a/b/c/d"}, {Path: "a/b-", Dir: true}, {Path: "a/b-/c"}, {Path: "a/b0"}, {Path: "a/\xff"},
		{Path: "a\x01"}, {Path: "a-", Dir: true}, {Path: "a.", Dir: true}, {Path: "a./x"}, {Path: "a0"}, {Path: "aa"}, {Path: "b", Dir: true}, {Path: "\xff", Dir: true}, {Path: "\xff/a", Dir: true},
	}
	for k := range asked {
		asked[k].Data = fmt.Sprint(k, "\x00")
		if asked[k].Dir {
			asked[k].Data = ""
		}
	}
	for k := range asked { // those of more parts come later
		for i := range asked {
			if a := asked[(i*7+3)%len(asked)]; strings.Count(a.Path, "/") == k {
				if a.Dir {
					all(t, f, 1, mkdir(a.Path))
				} else {
					all(t, f, 1, create(a.Path), write(1, 0, a.Data), shut(1))
				}
			}
		}
	}
	if l := f.Files(); !slices.Equal(l, asked) || !slices.IsSortedFunc(l, func(a, b api.File) int { return paths.Compare(a.Path, b.Path) }) {
		t.Errorf("%v, not %v", l, asked)
	}
	clear(f.Files())
	all(t, f, 1, link("a/b/c/d", "zz"), create("held"), write(1, 0, "x"), unlink("held"))
	if l := f.Files(); !slices.Equal(l, append(asked[:18:18], api.File{Path: "zz", Data: asked[6].Data}, asked[18], asked[19])) {
		t.Errorf("%v", l)
	}
}

func TestFs2Used(t *testing.T) {
	f := disk(t, 64*4+10)
	used := func(n int) {
		t.Helper()
		if f.Used() != n {
			t.Errorf("%d, not %d", f.Used(), n)
		}
	}
	all(t, f, 1, mkdir("d"))
	used(64 * 2)
	all(t, f, 1, create("d/a"), write(1, 2, "x"))
	used(64*3 + 3)
	all(t, f, 1, link("d/a", "b"), open("b"), unlink("d/a"), unlink("b"), shut(1))
	used(64*3 + 3)
	all(t, f, 1, shut(2))
	used(64 * 2)
	all(t, f, 1, rmdir("d"))
	used(64)
}

func TestFs2Clone(t *testing.T) {
	f := disk(t, 64*5+10)
	all(t, f, 1, mkdir("d"), create("d/a"), write(1, 0, "abc"), create("b"), shut(1), open("b"))
	all(t, f, 2, open("d/a"), unlink("d/a"))
	c := f.Clone()
	first := seen(f)
	if c == f || seen(c) != first {
		t.Errorf("%s, not %s", seen(c), first)
	}
	want(t, f, 2, write(1, 4, "x"), api.Res{})
	want(t, f, 1, shut(1), api.Res{})
	want(t, f, 1, shut(2), api.Res{})
	want(t, f, 2, unlink("b"), api.Res{})
	want(t, f, 3, create("d/new"), api.Res{N: 1})
	f.Exit(2)
	if seen(c) != first {
		t.Errorf("a clone changed with what it was made of: %s, not %s", seen(c), first)
	}
	second := seen(f)
	want(t, c, 2, read(1, 0, 9), api.Res{Data: "abc"})
	want(t, c, 2, write(1, 74, "y"), api.Res{Err: api.ErrSpace}) // the same quota
	want(t, c, 1, rename("b", "d/new"), api.Res{})
	want(t, c, 1, create("e"), api.Res{N: 3})
	want(t, c, 4, open("e"), api.Res{N: 1})
	c.Exit(1)
	if seen(f) != second {
		t.Errorf("what a clone was made of changed with it: %s, not %s", seen(f), second)
	}
}

// TestR3NewMemory: lists that were handed out may be changed without an effect.
func TestR3NewMemory(t *testing.T) {
	f := disk(t, 1<<16)
	all(t, f, 1, mkdir("d"), create("d/a"), create("d/b"))
	before := seen(f)
	names := f.Do(1, list("d")).Names
	for k := range names {
		names[k] = "x"
	}
	files := f.Files()
	for k := range files {
		files[k] = api.File{Path: "x"}
	}
	owners := f.Owners()
	owners[0] = 9
	if r := f.Do(1, list("d")); !reflect.DeepEqual(r.Names, []string{"a", "b"}) || seen(f) != before {
		t.Error(r, seen(f))
	}
}
