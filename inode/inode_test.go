package inode_test

import (
	"fmt"
	"reflect"
	"strings"
	"testing"

	"cooperage/api"
	"cooperage/inode"
)

// table is a new table of that quota.
func table(t *testing.T, quota int) *inode.Table {
	t.Helper()
	x, e := inode.New(quota)
	if x == nil || e != api.OK {
		t.Fatalf("New(%d): %v %d", quota, x, e)
	}
	return x
}

// made is the number of what Make makes where nothing hinders it.
func made(t *testing.T, x *inode.Table, dir int, name string, isDir bool) int {
	t.Helper()
	id, e := x.Make(dir, name, isDir)
	if e != api.OK {
		t.Fatalf("Make(%d, %q, %t): %d", dir, name, isDir, e)
	}
	return id
}

// want holds an error against the one that is asked for.
func want(t *testing.T, what string, got, asked api.Errno) {
	t.Helper()
	if got != asked {
		t.Errorf("%s: %d, not %d", what, got, asked)
	}
}

// refused runs calls each of which has to answer its error and to change nothing.
func refused(t *testing.T, x *inode.Table, calls []refusal) {
	t.Helper()
	for _, c := range calls {
		before, used := x.Nodes(), x.Used()
		want(t, c.what, c.call(), c.asked)
		if after := x.Nodes(); !reflect.DeepEqual(before, after) || x.Used() != used {
			t.Errorf("%s: was refused, and changed %v to %v", c.what, before, after)
		}
	}
}

type refusal struct {
	what  string
	asked api.Errno
	call  func() api.Errno
}

// answers are the errors, and other results, of all methods of a table for ordinary arguments.
func answers(x *inode.Table) []any {
	var l []any
	add := func(more ...any) { l = append(l, more...) }
	id, e := x.Make(1, "a", false)
	add(id, e)
	id, e = x.Find(1, "a")
	add(id, e)
	names, e := x.List(1)
	add(len(names), e)
	s, e := x.Read(2, 0, 1)
	add(s, e)
	add(x.Link(2, 1, "b"), x.Unlink(1, "b"), x.Remove(1, "a"), x.Rename(1, "a", 1, "b"))
	add(x.Write(2, 0, "x"), x.Truncate(2, 1), x.Hold(2), x.Drop(2), x.Used(), len(x.Nodes()), x.Clone() == nil)
	return l
}

func TestIn3NilAndZero(t *testing.T) {
	arg := api.ErrArg
	asked := []any{0, arg, 0, arg, 0, arg, "", arg, arg, arg, arg, arg, arg, arg, arg, arg, 0, 0, true}
	for what, x := range map[string]*inode.Table{"nil": nil, "zero": {}, "new": new(inode.Table)} {
		for range 2 {
			if got := answers(x); !reflect.DeepEqual(got, asked) {
				t.Errorf("%s: %v", what, got)
			}
		}
	}
	wrong := []func(*inode.Table) api.Errno{
		func(x *inode.Table) api.Errno { _, e := x.Make(-1, "/", true); return e },
		func(x *inode.Table) api.Errno { _, e := x.Read(0, -1, -1); return e },
		func(x *inode.Table) api.Errno { return x.Write(9, -1, "") },
		func(x *inode.Table) api.Errno { return x.Drop(1) },
		func(x *inode.Table) api.Errno { return x.Rename(9, "", 9, "") },
	}
	for k, f := range wrong {
		want(t, fmt.Sprint("nil, call ", k), f(nil), api.ErrArg)
		want(t, fmt.Sprint("zero, call ", k), f(&inode.Table{}), api.ErrArg)
	}
}

func TestIn1New(t *testing.T) {
	for _, q := range []int{64, 65, 127, 1 << 20, api.MaxQuota - 1, api.MaxQuota} {
		x := table(t, q)
		asked := []api.Node{{Id: 1, Dir: true, Links: 1}}
		if l := x.Nodes(); !same(l, asked) || x.Used() != 64 {
			t.Errorf("New(%d): %v, used %d", q, l, x.Used())
		}
		if names, e := x.List(1); len(names) != 0 || e != api.OK {
			t.Errorf("New(%d): List: %q %d", q, names, e)
		}
	}
	for _, q := range []int{-api.MaxInt - 1, -api.MaxInt, -64, -1, 0, 1, 63, api.MaxQuota + 1, api.MaxInt} {
		if x, e := inode.New(q); x != nil || e != api.ErrArg {
			t.Errorf("New(%d): %v %d", q, x, e)
		}
	}
}

func TestIn1MakeAndFind(t *testing.T) {
	x := table(t, 1<<20)
	at := []struct {
		dir   int
		name  string
		isDir bool
	}{{1, "a", false}, {1, "d", true}, {3, "a", false}, {3, "d", true}, {5, "d", true}, {6, "x", false}, {1, "\xff\n", false}}
	for k, p := range at {
		if id := made(t, x, p.dir, p.name, p.isDir); id != k+2 {
			t.Errorf("%d-th: %d", k, id)
		}
		if x.Used() != 64*(k+2) {
			t.Errorf("%d-th: used %d", k, x.Used())
		}
	}
	for k, p := range at {
		if id, e := x.Find(p.dir, p.name); id != k+2 || e != api.OK {
			t.Errorf("Find(%d, %q): %d %d", p.dir, p.name, id, e)
		}
		n := x.Nodes()[k+1]
		if n.Id != k+2 || n.Dir != p.isDir || n.Links != 1 || n.Holds != 0 || n.Data != "" {
			t.Errorf("%d-th: %v", k, n)
		}
	}
	for _, p := range at { // refused ones take no number
		_, e := x.Make(p.dir, p.name, !p.isDir)
		want(t, p.name, e, api.ErrExist)
	}
	if id := made(t, x, 1, "last", false); id != len(at)+2 {
		t.Error(id)
	}
	for _, name := range []string{"A", "b", "aa", "d/a", "\xff"} {
		if id, e := x.Find(3, name); id != 0 || e == api.OK {
			t.Errorf("Find(3, %q): %d %d", name, id, e)
		}
	}
}

func TestIn1NumbersOnce(t *testing.T) {
	x := table(t, 64*2)
	for k := range 20 {
		if id := made(t, x, 1, "a", k%2 == 0); id != k+2 {
			t.Fatalf("%d: %d", k, id)
		}
		if _, e := x.Make(1, "b", false); e != api.ErrSpace {
			t.Fatal(e)
		}
		e := x.Unlink(1, "a")
		if k%2 == 0 {
			e = x.Remove(1, "a")
		}
		if e != api.OK {
			t.Fatal(e)
		}
		if _, e := x.Find(1, "a"); e != api.ErrNone || x.Used() != 64 {
			t.Fatal(e, x.Used())
		}
		want(t, "gone", x.Write(k+2, 0, ""), api.ErrNone)
	}
}

func TestIn1ErrorsInOrder(t *testing.T) {
	x := table(t, 64*4+10)
	f, d := made(t, x, 1, "f", false), made(t, x, 1, "d", true)
	made(t, x, d, "g", false)
	want(t, "fill", x.Write(f, 0, "0123456789"), api.OK)
	mk := func(dir int, name string) func() api.Errno {
		return func() api.Errno {
			id, e := x.Make(dir, name, dir%2 == 0)
			if id != 0 {
				t.Errorf("Make(%d, %q): %d", dir, name, id)
			}
			return e
		}
	}
	find := func(dir int, name string) func() api.Errno {
		return func() api.Errno {
			id, e := x.Find(dir, name)
			if id != 0 {
				t.Errorf("Find(%d, %q): %d", dir, name, id)
			}
			return e
		}
	}
	refused(t, x, []refusal{
		{"make nowhere", api.ErrNone, mk(9, "a")}, {"make nowhere, no name", api.ErrNone, mk(0, "/")}, {"make nowhere", api.ErrNone, mk(-1, "f")}, {"make nowhere", api.ErrNone, mk(api.MaxInt, "")},
		{"make in a file", api.ErrKind, mk(f, "a")}, {"make in a file, no name", api.ErrKind, mk(f, "..")},
		{"make no name", api.ErrArg, mk(1, "")}, {"make no name", api.ErrArg, mk(d, ".")},
		{"make again", api.ErrExist, mk(1, "f")}, {"make again", api.ErrExist, mk(1, "d")},
		{"make without space", api.ErrSpace, mk(1, "a")}, {"make without space", api.ErrSpace, mk(d, "a")},
		{"find nowhere", api.ErrNone, find(9, "a")}, {"find nowhere, no name", api.ErrNone, find(0, "/")},
		{"find in a file", api.ErrKind, find(f, "a")}, {"find in a file, no name", api.ErrKind, find(f, "")},
		{"find no name", api.ErrArg, find(1, "")}, {"find no name", api.ErrArg, find(1, "..")}, {"find no path", api.ErrArg, find(1, "d/g")},
		{"find nothing", api.ErrNone, find(1, "g")}, {"find nothing", api.ErrNone, find(d, "f")},
	})
}

// isName is which names may stand in a directory, by the document's words.
func isName(s string) bool {
	for _, b := range []byte(s) {
		if b == 0 || b == '/' {
			return false
		}
	}
	return 1 <= len(s) && len(s) <= 32 && s != "." && s != ".."
}

func TestIn1Names(t *testing.T) {
	var names []string
	for n := range 70 {
		names = append(names, strings.Repeat("n", n), strings.Repeat(".", n), strings.Repeat("é", n))
	}
	for b := range 256 {
		c := string([]byte{byte(b)})
		names = append(names, c, c+"q", "q"+c, "q"+c+"q", c+c, c+".", "."+c, "..."+c, strings.Repeat("m", 31)+c, c+strings.Repeat("m", 31), strings.Repeat("m", 32)+c)
	}
	names = append(names, " ", "../", "/..", "./a", "a/b", ".wh.a", "\xff\xfe", strings.Repeat("n", 1000), strings.Repeat("/", 1000))
	x := table(t, api.MaxQuota)
	g := made(t, x, 1, "g g", false)
	there := map[string]bool{}
	for _, s := range names {
		asked, gone, twice := api.OK, api.OK, api.ErrExist
		if !isName(s) {
			asked, gone, twice = api.ErrArg, api.ErrArg, api.ErrArg
		} else if there[s] {
			asked = api.ErrExist
		} else {
			gone = api.ErrNone
		}
		id, e := x.Find(1, s)
		want(t, fmt.Sprintf("Find %q", s), e, gone)
		if (id == 0) != (e != api.OK) {
			t.Errorf("Find %q: %d %d", s, id, e)
		}
		_, e = x.Make(1, s, len(s)%2 == 0)
		want(t, fmt.Sprintf("Make %q", s), e, asked)
		there[s] = isName(s)
		want(t, fmt.Sprintf("Link %q", s), x.Link(g, 1, s), twice)
	}
	l, _ := x.List(1)
	if n := len(there); len(l) >= n || len(l) < n/2 {
		t.Error(len(l), n)
	}
	for _, s := range names { // every other method takes the same names
		if isName(s) {
			continue
		}
		want(t, fmt.Sprintf("Unlink %q", s), x.Unlink(1, s), api.ErrArg)
		want(t, fmt.Sprintf("Remove %q", s), x.Remove(1, s), api.ErrArg)
		want(t, fmt.Sprintf("Rename %q", s), x.Rename(1, s, 1, "z"), api.ErrArg)
		want(t, fmt.Sprintf("Rename as %q", s), x.Rename(1, "g g", 1, s), api.ErrArg)
	}
}

func TestIn1FullAndSpace(t *testing.T) {
	x := table(t, 64*api.MaxInodes) // as many as may be just have space
	for k := 2; k <= api.MaxInodes; k++ {
		made(t, x, 1, fmt.Sprint(k), k%2 == 0)
	}
	if x.Used() != 64*4096 || len(x.Nodes()) != 4096 {
		t.Fatal(x.Used())
	}
	for name, asked := range map[string]api.Errno{"4097": api.ErrFull, "4096": api.ErrExist, "": api.ErrArg} {
		_, e := x.Make(1, name, false)
		want(t, name, e, asked)
	}
	_, e := x.Make(3, "a", false)
	want(t, "in a file", e, api.ErrKind)
	want(t, "no byte more", x.Write(3, 0, "x"), api.ErrSpace)
	want(t, "a link takes nothing", x.Link(3, 1, "link"), api.OK)
	want(t, "hold", x.Hold(5), api.OK)
	want(t, "unlink what is held", x.Unlink(1, "5"), api.OK)
	_, e = x.Make(1, "new", false)
	want(t, "what is held counts", e, api.ErrFull)
	want(t, "drop", x.Drop(5), api.OK)
	if id, e := x.Make(1, "new", true); id != 4097 || e != api.OK {
		t.Error(id, e)
	}
	want(t, "remove", x.Remove(1, "new"), api.OK)
	want(t, "the last 64 bytes", x.Write(3, 0, strings.Repeat("x", 64)), api.OK)
	_, e = x.Make(1, "new", true)
	want(t, "no space", e, api.ErrSpace)
	want(t, "one less", x.Truncate(3, 63), api.OK)
	_, e = x.Make(1, "new", true)
	want(t, "too little space", e, api.ErrSpace)
	want(t, "none", x.Truncate(3, 0), api.OK)
	if id, e := x.Make(1, "new", true); id != 4098 || e != api.OK {
		t.Error(id, e)
	}
}

func TestIn1FullWithSpace(t *testing.T) {
	x := table(t, api.MaxQuota)
	dir := 1
	for k := 2; k <= api.MaxInodes; k++ {
		id := made(t, x, dir, fmt.Sprint(k), k%100 == 0)
		if k%100 == 0 {
			dir = id
		}
	}
	_, e := x.Make(1, "more", false)
	want(t, "more", e, api.ErrFull)
	want(t, "unlink", x.Unlink(1, "2"), api.OK)
	if id, e := x.Make(1, "more", false); id != 4097 || e != api.OK {
		t.Error(id, e)
	}
	_, e = x.Make(dir, "more", false)
	want(t, "more", e, api.ErrFull)
	for quota := 64; quota < 64*4; quota++ {
		x := table(t, quota)
		n := 1
		for ; ; n++ {
			if _, e := x.Make(1, fmt.Sprint(n), n%2 == 0); e != api.OK {
				want(t, "make", e, api.ErrSpace)
				break
			}
		}
		if n != quota/64 || x.Used() != n*64 {
			t.Errorf("quota %d: %d, used %d", quota, n, x.Used())
		}
	}
}
