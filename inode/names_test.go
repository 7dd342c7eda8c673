package inode_test

import (
	"fmt"
	"slices"
	"testing"

	"cooperage/api"
	"cooperage/inode"
)

// node is the inode with a number, as Nodes tells it.
func node(x *inode.Table, id int) (api.Node, bool) {
	l := x.Nodes()
	i := slices.IndexFunc(l, func(n api.Node) bool { return n.Id == id })
	if i < 0 {
		return api.Node{}, false
	}
	return l[i], true
}

// leads tells to what a name leads; 0: to nothing.
func leads(x *inode.Table, dir int, name string) int {
	id, _ := x.Find(dir, name)
	return id
}

func TestIn2Link(t *testing.T) {
	x := table(t, 64*3+5)
	f, d := made(t, x, 1, "f", false), made(t, x, 1, "d", true)
	want(t, "write", x.Write(f, 0, "hello"), api.OK) // no space is left, and none is needed
	for k, at := range []struct {
		dir  int
		name string
	}{{1, "g"}, {d, "f"}, {d, "g"}, {1, "F"}} {
		want(t, at.name, x.Link(f, at.dir, at.name), api.OK)
		if leads(x, at.dir, at.name) != f {
			t.Error(at)
		}
		if n, _ := node(x, f); n.Links != k+2 || x.Used() != 64*3+5 {
			t.Error(n, x.Used())
		}
	}
	refused(t, x, []refusal{
		{"no inode", api.ErrNone, func() api.Errno { return x.Link(9, 9, "") }},
		{"no inode", api.ErrNone, func() api.Errno { return x.Link(0, f, "") }},
		{"no inode", api.ErrNone, func() api.Errno { return x.Link(-1, 1, "a") }},
		{"a directory", api.ErrKind, func() api.Errno { return x.Link(d, 9, "") }},
		{"the root", api.ErrKind, func() api.Errno { return x.Link(1, 1, "a") }},
		{"no directory", api.ErrNone, func() api.Errno { return x.Link(f, 9, "") }},
		{"no directory", api.ErrNone, func() api.Errno { return x.Link(f, 0, "a") }},
		{"in a file", api.ErrKind, func() api.Errno { return x.Link(f, f, "") }},
		{"in a file", api.ErrKind, func() api.Errno { return x.Link(f, f, "a") }},
		{"no name", api.ErrArg, func() api.Errno { return x.Link(f, 1, "") }},
		{"no name", api.ErrArg, func() api.Errno { return x.Link(f, 1, "a/b") }},
		{"again", api.ErrExist, func() api.Errno { return x.Link(f, 1, "f") }},
		{"again", api.ErrExist, func() api.Errno { return x.Link(f, 1, "d") }},
		{"again", api.ErrExist, func() api.Errno { return x.Link(f, d, "f") }},
	})
}

// TestIn2LinkFull: neither the number of inodes nor the space hinders a link.
func TestIn2LinkFull(t *testing.T) {
	x := table(t, 64*api.MaxInodes)
	for k := 2; k <= api.MaxInodes; k++ {
		made(t, x, 1, fmt.Sprint(k), false)
	}
	for k := range 5000 {
		want(t, "link", x.Link(7, 1, fmt.Sprint("link", k)), api.OK)
	}
	if n, _ := node(x, 7); n.Links != 5001 || x.Used() != 64*4096 {
		t.Error(n, x.Used())
	}
}

// TestIn2LinkHeld: a file that has holds alone exists, and can be given a name.
func TestIn2LinkHeld(t *testing.T) {
	x := table(t, 1000)
	f := made(t, x, 1, "f", false)
	want(t, "write", x.Write(f, 0, "abc"), api.OK)
	want(t, "hold", x.Hold(f), api.OK)
	want(t, "unlink", x.Unlink(1, "f"), api.OK)
	if n, ok := node(x, f); !ok || n.Links != 0 || n.Holds != 1 || n.Data != "abc" || x.Used() != 64*2+3 {
		t.Error(n, x.Used())
	}
	want(t, "link", x.Link(f, 1, "g"), api.OK)
	want(t, "drop", x.Drop(f), api.OK)
	if n, ok := node(x, f); !ok || n.Links != 1 || n.Holds != 0 || n.Data != "abc" || leads(x, 1, "g") != f || leads(x, 1, "f") != 0 {
		t.Error(n)
	}
	want(t, "unlink", x.Unlink(1, "g"), api.OK)
	want(t, "link", x.Link(f, 1, "g"), api.ErrNone)
}

func TestIn2Unlink(t *testing.T) {
	x := table(t, 1000)
	f, d := made(t, x, 1, "f", false), made(t, x, 1, "d", true)
	want(t, "link", x.Link(f, d, "g"), api.OK)
	want(t, "write", x.Write(f, 0, "abc"), api.OK)
	refused(t, x, []refusal{
		{"nowhere", api.ErrNone, func() api.Errno { return x.Unlink(9, "") }},
		{"in a file", api.ErrKind, func() api.Errno { return x.Unlink(f, "") }},
		{"no name", api.ErrArg, func() api.Errno { return x.Unlink(1, "") }},
		{"nothing", api.ErrNone, func() api.Errno { return x.Unlink(1, "g") }},
		{"nothing", api.ErrNone, func() api.Errno { return x.Unlink(d, "f") }},
		{"a directory", api.ErrKind, func() api.Errno { return x.Unlink(1, "d") }},
	})
	want(t, "unlink", x.Unlink(1, "f"), api.OK)
	if n, ok := node(x, f); !ok || n.Links != 1 || n.Data != "abc" || x.Used() != 64*3+3 || leads(x, 1, "f") != 0 {
		t.Error(n)
	}
	want(t, "unlink", x.Unlink(1, "f"), api.ErrNone)
	want(t, "unlink", x.Unlink(d, "g"), api.OK)
	if n, ok := node(x, f); ok || x.Used() != 64*2 || leads(x, d, "g") != 0 {
		t.Error(n)
	}
}

func TestIn2Remove(t *testing.T) {
	x := table(t, 1000)
	f, d := made(t, x, 1, "f", false), made(t, x, 1, "d", true)
	in := made(t, x, d, "in", true)
	made(t, x, in, "g", false)
	refused(t, x, []refusal{
		{"nowhere", api.ErrNone, func() api.Errno { return x.Remove(9, "") }},
		{"in a file", api.ErrKind, func() api.Errno { return x.Remove(f, "") }},
		{"no name", api.ErrArg, func() api.Errno { return x.Remove(1, ".") }},
		{"nothing", api.ErrNone, func() api.Errno { return x.Remove(1, "g") }},
		{"a file", api.ErrKind, func() api.Errno { return x.Remove(1, "f") }},
		{"a file", api.ErrKind, func() api.Errno { return x.Remove(in, "g") }},
		{"a directory in it", api.ErrBusy, func() api.Errno { return x.Remove(1, "d") }},
		{"a file in it", api.ErrBusy, func() api.Errno { return x.Remove(d, "in") }},
	})
	want(t, "empty", x.Unlink(in, "g"), api.OK)
	want(t, "remove", x.Remove(d, "in"), api.OK)
	if _, ok := node(x, in); ok || leads(x, d, "in") != 0 || x.Used() != 64*3 {
		t.Error(x.Nodes())
	}
	_, e := x.Make(in, "a", false)
	want(t, "in what was removed", e, api.ErrNone)
	want(t, "remove", x.Remove(1, "d"), api.OK)
	want(t, "remove", x.Remove(1, "d"), api.ErrNone)
	if l, e := x.List(1); !slices.Equal(l, []string{"f"}) || e != api.OK {
		t.Error(l, e)
	}
	want(t, "unlink", x.Unlink(1, "f"), api.OK)
	if l := x.Nodes(); len(l) != 1 || x.Used() != 64 {
		t.Error(l)
	}
}

func TestIn2Rename(t *testing.T) {
	x := table(t, 64*5+6)
	a, b, d := made(t, x, 1, "a", false), made(t, x, 1, "b", false), made(t, x, 1, "d", true)
	c := made(t, x, d, "c", false)
	want(t, "write", x.Write(a, 0, "aaa"), api.OK)
	want(t, "write", x.Write(b, 0, "bbb"), api.OK)
	refused(t, x, []refusal{
		{"nowhere", api.ErrNone, func() api.Errno { return x.Rename(9, "", 9, "") }},
		{"in a file", api.ErrKind, func() api.Errno { return x.Rename(a, "", 9, "") }},
		{"no name", api.ErrArg, func() api.Errno { return x.Rename(1, "", 9, "") }},
		{"nothing", api.ErrNone, func() api.Errno { return x.Rename(1, "z", a, "") }},
		{"nothing over itself", api.ErrNone, func() api.Errno { return x.Rename(1, "z", 1, "z") }},
		{"a directory", api.ErrKind, func() api.Errno { return x.Rename(1, "d", 9, "") }},
		{"a directory over itself", api.ErrKind, func() api.Errno { return x.Rename(1, "d", 1, "d") }},
		{"a directory over a file", api.ErrKind, func() api.Errno { return x.Rename(1, "d", 1, "a") }},
		{"to nowhere", api.ErrNone, func() api.Errno { return x.Rename(1, "a", 9, "") }},
		{"to a file", api.ErrKind, func() api.Errno { return x.Rename(1, "a", b, "") }},
		{"to a file", api.ErrKind, func() api.Errno { return x.Rename(1, "a", a, "z") }},
		{"to no name", api.ErrArg, func() api.Errno { return x.Rename(1, "a", 1, "") }},
		{"to no name", api.ErrArg, func() api.Errno { return x.Rename(1, "a", d, "..") }},
		{"over a directory", api.ErrKind, func() api.Errno { return x.Rename(1, "a", 1, "d") }},
	})
	want(t, "over itself", x.Rename(1, "a", 1, "a"), api.OK)
	want(t, "to a new name", x.Rename(1, "a", d, "a"), api.OK)
	if n, _ := node(x, a); leads(x, 1, "a") != 0 || leads(x, d, "a") != a || n.Links != 1 || n.Data != "aaa" || x.Used() != 64*5+6 {
		t.Error(n)
	}
	want(t, "over another one", x.Rename(d, "a", 1, "b"), api.OK)
	if _, ok := node(x, b); ok || leads(x, 1, "b") != a || leads(x, d, "a") != 0 || x.Used() != 64*4+3 {
		t.Error(x.Nodes())
	}
	want(t, "over another one", x.Rename(1, "b", d, "c"), api.OK)
	if _, ok := node(x, c); ok || leads(x, d, "c") != a || x.Used() != 64*3+3 {
		t.Error(x.Nodes())
	}
}

// TestIn2RenameSame: two names of one file both stay, as nothing is done.
func TestIn2RenameSame(t *testing.T) {
	x := table(t, 1000)
	f, d := made(t, x, 1, "f", false), made(t, x, 1, "d", true)
	want(t, "link", x.Link(f, d, "g"), api.OK)
	for range 2 {
		want(t, "rename", x.Rename(1, "f", d, "g"), api.OK)
		want(t, "rename", x.Rename(d, "g", 1, "f"), api.OK)
	}
	if n, _ := node(x, f); n.Links != 2 || leads(x, 1, "f") != f || leads(x, d, "g") != f {
		t.Error(x.Nodes())
	}
}

// TestIn2RenameOver: what was under the new name stays as long as a name or a hold keeps it.
func TestIn2RenameOver(t *testing.T) {
	x := table(t, 1000)
	a, b := made(t, x, 1, "a", false), made(t, x, 1, "b", false)
	want(t, "write", x.Write(b, 0, "bbb"), api.OK)
	want(t, "link", x.Link(b, 1, "c"), api.OK)
	want(t, "hold", x.Hold(b), api.OK)
	want(t, "rename", x.Rename(1, "a", 1, "b"), api.OK)
	if n, ok := node(x, b); !ok || n.Links != 1 || n.Holds != 1 || leads(x, 1, "b") != a || leads(x, 1, "c") != b {
		t.Error(x.Nodes())
	}
	want(t, "rename", x.Rename(1, "b", 1, "c"), api.OK)
	if s, e := x.Read(b, 0, 9); s != "bbb" || e != api.OK || leads(x, 1, "c") != a || leads(x, 1, "b") != 0 {
		t.Error(s, e)
	}
	if n, ok := node(x, b); !ok || n.Links != 0 || n.Holds != 1 || x.Used() != 64*3+3 {
		t.Error(x.Nodes())
	}
	want(t, "drop", x.Drop(b), api.OK)
	if _, ok := node(x, b); ok || x.Used() != 64*2 {
		t.Error(x.Nodes())
	}
}

func TestIn3List(t *testing.T) {
	x := table(t, api.MaxQuota)
	d, f := made(t, x, 1, "d", true), made(t, x, 1, "f", false)
	var asked []string
	for b := range 256 {
		for _, c := range []byte{'x', 0xff, 1} {
			name := string([]byte{byte(255 - b), c})
			if isName(name) {
				made(t, x, d, name, b%2 == 0)
				asked = append(asked, name)
			}
		}
	}
	slices.SortFunc(asked, func(a, b string) int { return int(a[0])<<8 + int(a[1]) - int(b[0])<<8 - int(b[1]) })
	l, e := x.List(d)
	if !slices.Equal(l, asked) || e != api.OK {
		t.Error(l, e)
	}
	l[0] = "other"
	if l, e := x.List(d); !slices.Equal(l, asked) || e != api.OK {
		t.Error("memory is shared", e)
	}
	if l, e := x.List(1); !slices.Equal(l, []string{"d", "f"}) || e != api.OK {
		t.Error(l, e)
	}
	for id, asked := range map[int]api.Errno{0: api.ErrNone, -1: api.ErrNone, 9999: api.ErrNone, f: api.ErrKind} {
		if l, e := x.List(id); len(l) != 0 || e != asked {
			t.Error(id, l, e)
		}
	}
}
