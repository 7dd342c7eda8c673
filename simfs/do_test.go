package simfs_test

import (
	"fmt"
	"slices"
	"strings"
	"testing"

	"cooperage/api"
)

// wrongPaths are no canonical paths.
func wrongPaths() []string {
	l := []string{"/", "//", "/a", "a/", "a//b", "./a", ".", "..", "a/.", "a/..", "a/./b", "../a", "a/../b", "a\x00", "\x00", "a/\x00b", "d/", "/d", "d//a", "./d/a"}
	l = append(l, strings.Repeat("n", 33), "d/"+strings.Repeat("n", 33), strings.Repeat("n", 33)+"/a")
	l = append(l, "1/2/3/4/5/6/7/8/9", strings.Repeat("d/", 8)+"a")
	l = append(l, strings.Repeat("n", 32)+"/"+strings.Repeat("n", 32)+"/"+strings.Repeat("n", 31)) // 97 bytes
	return append(l, strings.Repeat("a", api.MaxText))
}

func TestFs1Kinds(t *testing.T) {
	f := disk(t, 1<<16)
	all(t, f, 1, mkdir("d"), create("d/a"), write(1, 0, "abc"))
	kinds := []int{-api.MaxInt - 1, -api.MaxInt, -13, -1, 0, 14, 15, 16, 17, 100, 256, 257, 1 << 32, 1<<32 + 1, api.MaxInt}
	for _, kind := range kinds {
		for _, p := range []string{"", "d", "d/a", "/"} {
			refused(t, f, 1, api.Op{Kind: kind, Path: p, To: "x", H: 1, N: 1, Data: "x"}, api.ErrArg)
			refused(t, f, 9, api.Op{Kind: kind, Path: p, To: "x", H: 1, N: 1, Data: "x"}, api.ErrArg)
		}
	}
}

func TestFs1WrongPaths(t *testing.T) {
	f := disk(t, 1<<16)
	all(t, f, 1, mkdir("d"), create("d/a"), write(1, 0, "abc"))
	named := []int{api.OpMkdir, api.OpRmdir, api.OpCreate, api.OpOpen, api.OpLink, api.OpUnlink, api.OpRename}
	for _, kind := range named {
		for _, p := range append(wrongPaths(), "") {
			refused(t, f, 1, api.Op{Kind: kind, Path: p, To: "to"}, api.ErrArg)
			if kind == api.OpLink || kind == api.OpRename {
				for _, from := range []string{"d/a", "none", "none/a", "d", "d/a/x"} { // ahead of all errors on the way
					refused(t, f, 1, api.Op{Kind: kind, Path: from, To: p}, api.ErrArg)
				}
			}
		}
	}
	for _, p := range wrongPaths() {
		refused(t, f, 1, list(p), api.ErrArg)
	}
	want(t, f, 1, list(""), api.Res{Names: []string{"d"}})
}

// TestFs1PathsThatDoNotMatter: an operation reads only the fields that its kind names.
func TestFs1PathsThatDoNotMatter(t *testing.T) {
	f := disk(t, 1<<16)
	fill := func(op api.Op) api.Op {
		if op.Kind != api.OpLink && op.Kind != api.OpRename {
			op.To = "/.."
		}
		if op.Path == "" && op.Kind != api.OpList {
			op.Path = "//"
		}
		op.Pid, op.Birth = -1, 99
		return op
	}
	for _, x := range []struct {
		op    api.Op
		asked api.Res
	}{
		{mkdir("d"), api.Res{}}, {create("a"), api.Res{N: 1}}, {open("a"), api.Res{N: 2}}, {write(2, 0, "xyz"), api.Res{}}, {read(1, 1, 9), api.Res{Data: "yz"}}, {size(1), api.Res{N: 3}}, {trunc(1, 2), api.Res{}},
		{list(""), api.Res{Names: []string{"a", "d"}}}, {list("d"), api.Res{}}, {link("a", "b"), api.Res{}}, {rename("b", "c"), api.Res{}}, {unlink("c"), api.Res{}}, {rmdir("d"), api.Res{}}, {shut(1), api.Res{}}, {shut(2), api.Res{}},
	} {
		want(t, f, 1, fill(x.op), x.asked)
	}
	for _, op := range []api.Op{mkdir("d"), rmdir("d"), open("a"), unlink("a"), create("e")} {
		op.H, op.At, op.N, op.Data = -5, -1, -7, "x"
		if r := f.Do(1, op); r.Err != api.OK {
			t.Errorf("%+v: %+v", op, r)
		}
	}
}

// TestFs1Edges: the longest names and paths, those of most parts, and of unusual bytes.
func TestFs1Edges(t *testing.T) {
	long := strings.Repeat("n", 32)
	for _, p := range []string{long, "1/2/3/4/5/6/7/8", long + "/" + long + "/" + strings.Repeat("m", 30), ".../.a/a./..a/ /\x01\xff\n", ".wh.a"} {
		f := disk(t, 1<<16)
		names := strings.Split(p, "/")
		for k := 1; k < len(names); k++ {
			want(t, f, 1, mkdir(strings.Join(names[:k], "/")), api.Res{})
		}
		want(t, f, 1, create(p), api.Res{N: 1})
		want(t, f, 1, open(p), api.Res{N: 2})
		want(t, f, 1, write(2, 0, p), api.Res{})
		want(t, f, 1, link(p, "x"), api.Res{})
		want(t, f, 1, unlink(p), api.Res{})
		want(t, f, 1, link("x", p), api.Res{})
		want(t, f, 1, unlink("x"), api.Res{})
		want(t, f, 1, rename(p, "x"), api.Res{})
		want(t, f, 1, rename("x", p), api.Res{})
		if l := f.Files(); len(l) != len(names) || l[len(names)-1] != (api.File{Path: p, Data: p}) {
			t.Errorf("%q: %v", p, l)
		}
		want(t, f, 1, unlink(p), api.Res{})
		want(t, f, 1, mkdir(p), api.Res{})
		want(t, f, 1, list(p), api.Res{})
		want(t, f, 1, rmdir(p), api.Res{})
	}
}

func TestFs1OnTheWay(t *testing.T) {
	f := disk(t, 1<<16)
	all(t, f, 1, mkdir("d"), mkdir("d/e"), create("f"), create("d/g"), shut(1), shut(2))
	take := []func(string) api.Op{
		mkdir, rmdir, create, open, unlink, list,
		func(p string) api.Op { return link(p, "new") },
		func(p string) api.Op { return rename(p, "new") },
	}
	for _, op := range take {
		for p, e := range map[string]api.Errno{
			"x/y": api.ErrNone, "x/y/z": api.ErrNone, "d/x/y": api.ErrNone, "d/e/x/y": api.ErrNone,
			"f/y": api.ErrKind, "f/y/z": api.ErrKind, "d/g/y": api.ErrKind, "d/g/y/z": api.ErrKind,
		} {
			refused(t, f, 1, op(p), e)
		}
	}
	for _, op := range []api.Op{rmdir("x"), open("x"), unlink("x"), list("x"), link("x", "new"), rename("x", "new"), rmdir("d/x"), open("d/e/x"), list("d/x")} {
		refused(t, f, 1, op, api.ErrNone)
	}
	for _, op := range []api.Op{mkdir("d"), mkdir("f"), create("d"), create("f"), mkdir("d/g"), create("d/e")} {
		refused(t, f, 1, op, api.ErrExist)
	}
	for _, op := range []api.Op{rmdir("f"), rmdir("d/g"), open("d"), open("d/e"), unlink("d"), unlink("d/e"), list("f"), list("d/g"), link("d", "new"), rename("d", "new"), rename("d/e", "new")} {
		refused(t, f, 1, op, api.ErrKind)
	}
	refused(t, f, 1, rmdir("d"), api.ErrBusy)
}

// TestFs1TwoPaths: which of two paths' errors is the first.
func TestFs1TwoPaths(t *testing.T) {
	f := disk(t, 1<<16)
	all(t, f, 1, mkdir("d"), mkdir("d/e"), create("f"), create("d/g"), shut(1), shut(2))
	for _, x := range []struct {
		path, to     string
		link, rename api.Errno
	}{
		{"x", "f/y/z", api.ErrNone, api.ErrKind}, // of Rename the directories are found first, of Link what the path leads to
		{"x", "f/y", api.ErrNone, api.ErrNone},   // of a file as a directory Rename tells behind the missing name
		{"x", "d", api.ErrNone, api.ErrNone},
		{"x/y", "f/y/z", api.ErrNone, api.ErrNone},
		{"f/y", "x/y", api.ErrKind, api.ErrNone}, // f is found, and is no directory only when Rename looks into it
		{"f/y/z", "x/y", api.ErrKind, api.ErrKind},
		{"f/y", "d/e/x", api.ErrKind, api.ErrKind},
		{"d", "x/y", api.ErrNone, api.ErrNone}, // d is found; that it is a directory comes up behind the way to x
		{"d", "f/y/z", api.ErrKind, api.ErrKind},
		{"d", "f", api.ErrKind, api.ErrKind},
		{"d", "d", api.ErrKind, api.ErrKind},
		{"d", "d/e/x", api.ErrKind, api.ErrKind},
		{"f", "x/y", api.ErrNone, api.ErrNone},
		{"f", "d/x/y", api.ErrNone, api.ErrNone},
		{"f", "d/g/y", api.ErrKind, api.ErrKind},
		{"f", "d/g/y/z", api.ErrKind, api.ErrKind},
		{"f", "d", api.ErrExist, api.ErrKind},
		{"f", "d/e", api.ErrExist, api.ErrKind},
		{"d/g", "d", api.ErrExist, api.ErrKind},
		{"f", "f/y", api.ErrKind, api.ErrKind},
	} {
		refused(t, f, 1, link(x.path, x.to), x.link)
		refused(t, f, 1, rename(x.path, x.to), x.rename)
	}
	refused(t, f, 1, link("f", "d/g"), api.ErrExist)
	refused(t, f, 1, link("f", "f"), api.ErrExist)
	before := seen(f)
	want(t, f, 1, rename("f", "f"), api.Res{})
	if seen(f) != before {
		t.Error(seen(f), before)
	}
}

func TestFs1Directories(t *testing.T) {
	f := disk(t, 64*5)
	want(t, f, 1, mkdir("d"), api.Res{})
	want(t, f, 1, mkdir("d/e"), api.Res{})
	want(t, f, 2, mkdir("d/e/d"), api.Res{})
	want(t, f, 1, list(""), api.Res{Names: []string{"d"}})
	want(t, f, 1, list("d"), api.Res{Names: []string{"e"}})
	want(t, f, 3, list("d/e"), api.Res{Names: []string{"d"}})
	want(t, f, 1, list("d/e/d"), api.Res{})
	refused(t, f, 1, rmdir("d"), api.ErrBusy)
	refused(t, f, 1, rmdir("d/e"), api.ErrBusy)
	want(t, f, 1, mkdir("c"), api.Res{})
	want(t, f, 1, list(""), api.Res{Names: []string{"c", "d"}})
	refused(t, f, 1, mkdir("d/x"), api.ErrSpace)
	refused(t, f, 1, create("d/x"), api.ErrSpace)
	refused(t, f, 1, mkdir("d/e"), api.ErrExist)
	want(t, f, 1, rmdir("d/e/d"), api.Res{})
	want(t, f, 1, rmdir("d/e"), api.Res{})
	want(t, f, 1, list("d"), api.Res{})
	want(t, f, 1, create("d/e"), api.Res{N: 1}) // the name is free
	refused(t, f, 1, rmdir("d"), api.ErrBusy)
	if l := f.Files(); !slices.Equal(l, []api.File{{Path: "c", Dir: true}, {Path: "d", Dir: true}, {Path: "d/e"}}) || f.Used() != 64*4 {
		t.Error(l, f.Used())
	}
}

// TestFs1HandleNumbers: a new handle is the least number that its owner does not use, whatever others use.
func TestFs1HandleNumbers(t *testing.T) {
	f := disk(t, 1<<16)
	all(t, f, 7, create("g"), create("h"), create("i"))
	for n := range 8 {
		if n%2 == 0 {
			want(t, f, 1, create(fmt.Sprint("f", n+1)), api.Res{N: n + 1})
		} else {
			all(t, f, 7, create(fmt.Sprint("f", n+1)), shut(4))
			want(t, f, 1, open(fmt.Sprint("f", n+1)), api.Res{N: n + 1})
		}
		all(t, f, 1, write(n+1, 0, fmt.Sprint(n+1)))
	}
	which := func(asked string) {
		t.Helper()
		got := ""
		for h := 1; h <= 8; h++ {
			r := f.Do(1, read(h, 0, 9))
			if r.Err == api.ErrHandle {
				r.Data = "-"
			}
			got += r.Data
		}
		if got != asked {
			t.Errorf("%s, not %s", got, asked)
		}
	}
	which("12345678")
	for _, x := range []struct {
		shut []int
		open string
		n    int
		all  string
	}{
		{[]int{8}, "f1", 8, "12345671"}, {[]int{1}, "f2", 1, "22345671"}, {[]int{5, 3}, "f8", 3, "2284-671"}, {nil, "f6", 5, "22846671"},
		{[]int{2, 4, 6, 8}, "f5", 2, "258-6-7-"}, {nil, "f5", 4, "25856-7-"}, {nil, "f5", 6, "2585657-"}, {nil, "f5", 8, "25856575"},
	} {
		for _, h := range x.shut {
			want(t, f, 1, shut(h), api.Res{})
		}
		want(t, f, 1, open(x.open), api.Res{N: x.n})
		which(x.all)
	}
	want(t, f, 7, open("f1"), api.Res{N: 4})
}

func TestFs1MostHandles(t *testing.T) {
	f := disk(t, 1<<16)
	all(t, f, 1, mkdir("d"))
	for n := range 8 {
		want(t, f, 1, create(fmt.Sprint("d/", n)), api.Res{N: n + 1})
	}
	for range 2 {
		for _, p := range []string{"d/0", "d", "new", "none/x", "d/0/x", "none/x/y"} { // ahead of all errors on the way
			refused(t, f, 1, create(p), api.ErrFull)
			refused(t, f, 1, open(p), api.ErrFull)
		}
		for _, p := range []string{"", "/", "d/", "d/../d/0"} { // but behind what may not be
			refused(t, f, 1, create(p), api.ErrArg)
			refused(t, f, 1, open(p), api.ErrArg)
		}
		all(t, f, 1, mkdir("e"), link("d/0", "e/0"), rename("e/0", "e/1"), list("e"), unlink("e/1"), rmdir("e"))
		want(t, f, 2, open("d/0"), api.Res{N: 1})
		f.Exit(2)
		want(t, f, 1, shut(5), api.Res{})
		refused(t, f, 1, open("none"), api.ErrNone)
		refused(t, f, 1, create("d/0"), api.ErrExist)
		want(t, f, 1, open("d/4"), api.Res{N: 5})
	}
}

// TestFs1NoHandle: whoever has no such handle can do nothing with it, and is told so ahead of all else.
func TestFs1NoHandle(t *testing.T) {
	f := disk(t, 1<<16)
	all(t, f, 1, create("a"), write(1, 0, "abc"), create("b"), shut(1))
	all(t, f, 2, open("a"), open("a"), open("a"))
	for _, h := range []int{-api.MaxInt - 1, -1, 0, 1, 3, 4, 7, 8, 9, 10, 64, 1<<32 + 2, api.MaxInt} {
		for _, op := range []api.Op{shut(h), read(h, 0, 3), read(h, -1, -1), write(h, 0, "x"), write(h, -1, ""), write(h, api.MaxInt, "x"), trunc(h, 0), trunc(h, -1), trunc(h, api.MaxInt), size(h)} {
			refused(t, f, 1, op, api.ErrHandle)
			refused(t, f, 0, op, api.ErrHandle)
		}
	}
	want(t, f, 1, shut(2), api.Res{})
	refused(t, f, 1, shut(2), api.ErrHandle)
	want(t, f, 2, size(1), api.Res{N: 3})
}

func TestFs1ThroughHandles(t *testing.T) {
	f := disk(t, 64*2+20)
	want(t, f, 1, create("a"), api.Res{N: 1})
	want(t, f, 1, size(1), api.Res{})
	want(t, f, 1, read(1, 0, 9), api.Res{})
	want(t, f, 1, write(1, 2, "xy\xff"), api.Res{})
	want(t, f, 1, size(1), api.Res{N: 5})
	want(t, f, 2, open("a"), api.Res{N: 1})
	for at := range 8 {
		for n := range 8 {
			s := "\x00\x00xy\xff"
			s = s[min(at, 5):min(at+n, 5)]
			want(t, f, 2, read(1, at, n), api.Res{Data: s})
		}
	}
	want(t, f, 2, read(1, 1, api.MaxInt), api.Res{Data: "\x00xy\xff"})
	want(t, f, 2, read(1, api.MaxInt, api.MaxInt), api.Res{})
	want(t, f, 2, trunc(1, 3), api.Res{})
	want(t, f, 1, read(1, 0, 9), api.Res{Data: "\x00\x00x"})
	want(t, f, 1, trunc(1, 6), api.Res{})
	want(t, f, 2, read(1, 0, 9), api.Res{Data: "\x00\x00x\x00\x00\x00"})
	want(t, f, 2, write(1, 20, ""), api.Res{})
	want(t, f, 2, size(1), api.Res{N: 6})
	for _, op := range []api.Op{read(1, -1, 0), read(1, 0, -1), read(1, -1, -1), write(1, -1, ""), write(1, -api.MaxInt-1, "x"), trunc(1, -1), trunc(1, -api.MaxInt-1)} {
		refused(t, f, 1, op, api.ErrArg)
	}
	for _, op := range []api.Op{write(1, api.MaxFile, "x"), write(1, api.MaxFile+1, ""), write(1, api.MaxInt, "x"), trunc(1, api.MaxFile+1), trunc(1, api.MaxInt)} {
		refused(t, f, 1, op, api.ErrFull)
	}
	for _, op := range []api.Op{write(1, 20, "x"), write(1, 0, strings.Repeat("x", 21)), write(1, api.MaxFile-1, "x"), trunc(1, 21), trunc(1, api.MaxFile)} {
		refused(t, f, 1, op, api.ErrSpace)
	}
	want(t, f, 1, write(1, 0, strings.Repeat("x", 20)), api.Res{})
	want(t, f, 1, trunc(1, 0), api.Res{})
	want(t, f, 1, trunc(1, 20), api.Res{})
	want(t, f, 1, size(1), api.Res{N: 20})
}

func TestFs1GreatFile(t *testing.T) {
	f := disk(t, 1<<22)
	all(t, f, 1, create("a"), write(1, api.MaxFile-1, "x"))
	want(t, f, 1, size(1), api.Res{N: api.MaxFile})
	refused(t, f, 1, write(1, api.MaxFile-1, "xy"), api.ErrFull)
	refused(t, f, 1, trunc(1, api.MaxFile+1), api.ErrFull)
	want(t, f, 1, read(1, 0, api.MaxInt), api.Res{Data: strings.Repeat("\x00", api.MaxFile-1) + "x"})
	if l := f.Files(); len(l) != 1 || len(l[0].Data) != api.MaxFile {
		t.Error(len(l))
	}
}

func TestFs1MostInodes(t *testing.T) {
	f := disk(t, api.MaxQuota)
	all(t, f, 1, mkdir("d"))
	for k := range 4094 {
		if k%2 == 0 {
			all(t, f, 1, mkdir(fmt.Sprint("d/", k)))
		} else {
			all(t, f, 1, create(fmt.Sprint(k)), shut(1))
		}
	}
	refused(t, f, 1, mkdir("x"), api.ErrFull)
	refused(t, f, 1, create("d/x"), api.ErrFull)
	refused(t, f, 1, create("d"), api.ErrExist)
	want(t, f, 1, link("1", "x"), api.Res{})
	if len(f.Files()) != 4096 || f.Used() != 64*4096 {
		t.Error(len(f.Files()), f.Used())
	}
	want(t, f, 1, unlink("3"), api.Res{})
	want(t, f, 1, create("d/x"), api.Res{N: 1})
	refused(t, f, 2, create("y"), api.ErrFull)
}

// TestFs1MostHolds: a file that is held as often as can be is not opened once more, and no handle is given.
func TestFs1MostHolds(t *testing.T) {
	f := disk(t, 1<<16)
	all(t, f, -1, create("a"), create("b"), shut(1), shut(2))
	owners := (1 << 20) / api.MaxHandles
	for owner := range owners {
		for n := range api.MaxHandles {
			if r := f.Do(owner, open("a")); r.Err != api.OK || r.N != n+1 {
				t.Fatal(owner, n, r)
			}
		}
	}
	for range 2 {
		want(t, f, owners, open("a"), api.Res{Err: api.ErrFull})
		want(t, f, owners, size(1), api.Res{Err: api.ErrHandle})
		if l := f.Owners(); len(l) != owners || l[owners-1] != owners-1 {
			t.Error(len(l))
		}
		want(t, f, 5, shut(3), api.Res{})
		want(t, f, owners, open("a"), api.Res{N: 1})
		want(t, f, 5, open("a"), api.Res{Err: api.ErrFull})
		want(t, f, 5, open("b"), api.Res{N: 3})
		f.Exit(owners)
		want(t, f, 5, shut(3), api.Res{})
		want(t, f, 5, open("a"), api.Res{N: 3})
	}
	want(t, f, owners, unlink("a"), api.Res{})
	for owner := range owners {
		f.Exit(owner)
	}
	if f.Used() != 64*2 || len(f.Owners()) != 0 {
		t.Error(f.Used(), len(f.Owners()))
	}
}
