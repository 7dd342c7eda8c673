package oplog_test

import (
	"slices"
	"testing"

	"cooperage/api"
	"cooperage/oplog"
)

// cut holds what a power failure leaves against what is asked for: files, and never a handle, or a log.
func cut(t *testing.T, d *oplog.Disk, keep int, asked ...api.File) {
	t.Helper()
	if e := d.Cut(keep); e != api.OK {
		t.Errorf("Cut(%d): %d", keep, e)
	}
	used := 64
	for _, f := range asked {
		used += 64 + len(f.Data)
	}
	if l := d.Files(); !slices.Equal(l, asked) || d.Used() != used || d.Logged() != 0 || len(d.Owners()) != 0 {
		t.Errorf("Cut(%d): %v, used %d, log %d, owners %v; not %v, %d", keep, l, d.Used(), d.Logged(), d.Owners(), asked, used)
	}
}

func file(p, data string) api.File { return api.File{Path: p, Data: data} }
func dir(p string) api.File        { return api.File{Path: p, Dir: true} }

// TestOl2Keep: each number of operations that can be kept, and those that cannot.
func TestOl2Keep(t *testing.T) {
	d := filled(t, 1, create("a"), write(1, 0, "old"), sync(), write(1, 0, "new"), create("b"), read(2), write(2, 0, "x"), shut(2), rename("b", "a"), list(""), mkdir("d"))
	d.Exit(1)
	asked := [][]api.File{
		{file("a", "old")},
		{file("a", "new")},
		{file("a", "new"), file("b", "")},
		{file("a", "new"), file("b", "x")},
		{file("a", "new"), file("b", "x")},
		{file("a", "x")},
		{file("a", "x"), dir("d")},
		{file("a", "x"), dir("d")},
	}
	if d.Logged() != len(asked)-1 {
		t.Error(d.Logged())
	}
	for keep, l := range asked {
		cut(t, d.Clone(), keep, l...)
	}
	for _, keep := range []int{-1, -2, -7, -api.MaxInt, -api.MaxInt - 1} {
		cut(t, d.Clone(), keep, asked[0]...)
	}
	for _, keep := range []int{len(asked), 100, 1 << 32, api.MaxInt} {
		cut(t, d.Clone(), keep, asked[len(asked)-1]...)
	}
}

// TestOl2Handles: the operations that are kept need the handles of the last sync, and all handles are closed behind them.
func TestOl2Handles(t *testing.T) {
	d := filled(t, 1, create("a"), create("b"), shut(1))
	all(t, d, 2, open("a"), open("b"), sync(), write(2, 0, "two"), shut(1), open("b"), write(1, 3, "!"))
	all(t, d, 1, open("a"), write(1, 0, "one"), unlink("a"), write(1, 3, "more"))
	d.Exit(2)
	all(t, d, 2, open("b"), trunc(1, 2))
	last := [][]api.File{
		{file("a", ""), file("b", "")}, {file("a", ""), file("b", "two")}, {file("a", ""), file("b", "two")}, {file("a", ""), file("b", "two")}, {file("a", ""), file("b", "two!")},
		{file("a", ""), file("b", "two!")}, {file("a", "one"), file("b", "two!")}, {file("b", "two!")}, {file("b", "two!")}, {file("b", "two!")}, {file("b", "two!")}, {file("b", "tw")},
	}
	for keep, l := range last {
		c := d.Clone()
		cut(t, c, keep, l...)
		for owner := range 3 {
			for h := range 9 {
				for _, op := range []api.Op{shut(h), read(h), write(h, 0, "x"), trunc(h, 0), size(h)} {
					want(t, c, owner, op, api.Res{Err: api.ErrHandle}, 0)
				}
			}
		}
		c.Exit(1)
		want(t, c, 2, open("b"), api.Res{N: 1}, 1)
	}
}

// TestOl2WithoutNames: a file that only handles kept is gone, and its space with it.
func TestOl2WithoutNames(t *testing.T) {
	d := filled(t, 1, mkdir("run"), create("a"), create("run/b"), write(1, 0, "abc"), write(2, 0, "def"), unlink("a"), unlink("run/b"), sync())
	if d.Used() != 64*4+6 {
		t.Error(d.Used())
	}
	cut(t, d, 0, dir("run"))
}

func TestOl2Run(t *testing.T) {
	d := filled(t, 1, mkdir("run"), create("run/a"), write(1, 0, "abc"), mkdir("run/d"), mkdir("run/d/run"), mkdir("run/d/run/e"), create("run/d/run/f"), create("run/d-"), create("run/run"), mkdir("run/z"))
	all(t, d, 1, mkdir("d"), mkdir("d/run"), create("d/run/a"), create("run-"), mkdir("run."), create("run./a"))
	all(t, d, 1, link("run/a", "kept"), link("run/a", "run/d/run/again"), link("run-", "run/-"))
	d.Exit(1)
	all(t, d, 1, mkdir("runs"), create("runs/a"), mkdir("ru"), create("Run"))
	asked := []api.File{file("Run", ""), dir("d"), dir("d/run"), file("d/run/a", ""), file("kept", "abc"), dir("ru"), dir("run"), file("run-", ""), dir("run."), file("run./a", ""), dir("runs"), file("runs/a", "")}
	c := d.Clone()
	cut(t, c, api.MaxInt, asked...)
	cut(t, c, api.MaxInt, asked...)
	all(t, d, 1, sync())
	all(t, d, 2, create("run/new"), unlink("run/a"))
	cut(t, d, 0, asked...) // whether it was synced or not
	want(t, d, 1, list("run"), api.Res{}, 0)
	want(t, d, 1, create("run/a"), api.Res{N: 1}, 1)
	want(t, d, 1, rmdir("run"), api.Res{Err: api.ErrBusy}, 1)
	cut(t, d, 1, asked...)
	want(t, d, 1, rmdir("run"), api.Res{}, 1)
}

// TestOl2NoRun: a file named run stays, for nothing is under it; and where nothing is named so, nothing appears.
func TestOl2NoRun(t *testing.T) {
	cut(t, disk(t, 64), 0)
	cut(t, filled(t, 1, mkdir("d"), create("d/a")), 2, dir("d"), file("d/a", ""))
	cut(t, filled(t, 1, create("run"), write(1, 0, "abc")), 2, file("run", "abc"))
	cut(t, filled(t, 1, create("run"), write(1, 0, "abc"), sync()), 0, file("run", "abc"))
	cut(t, filled(t, 1, mkdir("run"), create("run/a"), sync(), unlink("run/a"), rmdir("run"), create("run")), 2)
	cut(t, filled(t, 1, mkdir("run"), create("run/a"), sync(), unlink("run/a"), rmdir("run"), create("run")), 3, file("run", ""))
}

// TestOl2Synced: what a cut left is sure, and the next log begins there.
func TestOl2Synced(t *testing.T) {
	d := filled(t, 1, mkdir("run"), create("a"), write(1, 0, "abc"), write(1, 3, "def"), create("run/b"))
	cut(t, d, 3, file("a", "abc"), dir("run"))
	want(t, d, 2, open("a"), api.Res{N: 1}, 1)
	want(t, d, 2, write(1, 0, "x"), api.Res{}, 2)
	want(t, d, 2, create("run/b"), api.Res{N: 2}, 3)
	c := d.Clone()
	cut(t, d, 0, file("a", "abc"), dir("run"))
	cut(t, d, 5, file("a", "abc"), dir("run"))
	cut(t, c, 2, file("a", "xbc"), dir("run"))
	want(t, c, 1, unlink("a"), api.Res{}, 1)
	want(t, c, 1, sync(), api.Res{}, 0)
	cut(t, c, 0, dir("run"))
}

// TestOl3Sure: what was synced survives each cut, handles that go on after it or not.
func TestOl3Sure(t *testing.T) {
	d := filled(t, 1, create("a"), write(1, 0, "one"), sync())
	for k := range 20 {
		all(t, d, 1, write(1, 0, string(rune('a'+k))), sync())
		all(t, d, 1, write(1, 1, "--"), rename("a", "b"), rename("b", "a"))
		for keep := range 4 {
			data := string(rune('a'+k)) + "ne"
			if k > 0 || keep > 0 {
				data = string(rune('a'+k)) + "--"
			}
			asked := file("a", data)
			if keep == 2 {
				asked.Path = "b"
			}
			cut(t, d.Clone(), keep, asked)
		}
	}
}

// TestOl3KeepsAll: a cut that keeps everything loses nothing but what is under run, and the handles.
func TestOl3KeepsAll(t *testing.T) {
	d := filled(t, 1, mkdir("run"), create("run/a"), mkdir("d"), create("d/b"), write(2, 0, "abc"), sync(), create("c"), write(2, 3, "def"), link("d/b", "run/l"), rename("run/a", "e"))
	for _, keep := range []int{d.Logged(), d.Logged() + 1} {
		cut(t, d.Clone(), keep, file("c", ""), dir("d"), file("d/b", "abcdef"), file("e", ""), dir("run"))
	}
}

// TestOl2Example is the chapter's example.
func TestOl2Example(t *testing.T) {
	cut(t, filled(t, 1, create("a"), sync(), write(1, 0, "abc")), 0, file("a", ""))
}

// TestOl2Great: the most inodes, with syncs, exits and cuts in between.
func TestOl2Great(t *testing.T) {
	d := disk(t, api.MaxQuota)
	all(t, d, 1, mkdir("run"), create("a"), shut(1))
	asked := []api.File{file("a", ""), dir("run")}
	for k := range 4093 {
		all(t, d, 1, create("run/"+string(rune(0x4e00+k))), shut(1), open("a"), sync())
		d.Exit(1)
	}
	want(t, d, 1, mkdir("b"), api.Res{Err: api.ErrFull}, 1)
	c := d.Clone()
	cut(t, c, 0, asked...)
	want(t, c, 1, mkdir("b"), api.Res{}, 1)
	all(t, d, 1, unlink("run/"+string(rune(0x4e00))), create("run/x"))
	cut(t, d, 9, asked...)
}
