package simfs_test

import (
	"math/rand"
	"slices"
	"strings"
	"testing"

	"cooperage/api"
	"cooperage/paths"
	"cooperage/simfs"
)

// shelf is a file system of another make: things stand in one list by their whole paths, without inodes, and nothing is counted ahead.
type shelf struct {
	quota   int
	root    *thing
	things  map[string]*thing
	handles map[[2]int]*thing // by owners and numbers
}

// thing is a file or a directory.
type thing struct {
	dir  bool
	data []byte
}

func newShelf(quota int) *shelf {
	root := &thing{dir: true}
	return &shelf{quota: quota, root: root, things: map[string]*thing{"": root}, handles: map[[2]int]*thing{}}
}

// clone copies each thing once, however many names and handles it has.
func (s *shelf) clone() *shelf {
	copies := map[*thing]*thing{}
	for x := range s.distinct() {
		copies[x] = &thing{x.dir, slices.Clone(x.data)}
	}
	c := newShelf(s.quota)
	for p, x := range s.things {
		c.things[p] = copies[x]
	}
	for h, x := range s.handles {
		c.handles[h] = copies[x]
	}
	c.root = c.things[""]
	return c
}

// distinct are all things that are there, with or without a name.
func (s *shelf) distinct() map[*thing]int {
	l := map[*thing]int{}
	for _, x := range s.things {
		l[x]++
	}
	for _, x := range s.handles {
		l[x]++
	}
	return l
}

func (s *shelf) used() int {
	n := 0
	for x := range s.distinct() {
		n += 64 + len(x.data)
	}
	return n
}

// count is how many handles an owner has.
func (s *shelf) count(owner int) int {
	n := 0
	for h := range s.handles {
		if h[0] == owner {
			n++
		}
	}
	return n
}

// walk is what a path leads to, and the first error on its way.
func (s *shelf) walk(path string) (*thing, api.Errno) {
	for k, c := range path + "/" {
		if c != '/' || path == "" {
			continue
		}
		outer := path[:max(0, strings.LastIndex(path[:k], "/"))]
		if x := s.things[outer]; !x.dir {
			return nil, api.ErrKind
		}
		if s.things[path[:k]] == nil {
			return nil, api.ErrNone
		}
	}
	return s.things[path], api.OK
}

// outside is the error on the way to the directory of a path, and whether it is none.
func (s *shelf) outside(path string) (api.Errno, bool) {
	x, e := s.walk(path[:max(0, strings.LastIndex(path, "/"))])
	return e, e == api.OK && !x.dir
}

// vacant is the error that keeps a new thing from a path.
func (s *shelf) vacant(path string) api.Errno {
	e, noDir := s.outside(path)
	switch {
	case e != api.OK:
		return e
	case noDir:
		return api.ErrKind
	case s.things[path] != nil:
		return api.ErrExist
	}
	return api.OK
}

func (s *shelf) create(path string, isDir bool) api.Errno {
	if e := s.vacant(path); e != api.OK {
		return e
	}
	if s.used()+64 > s.quota {
		return api.ErrSpace
	}
	s.things[path] = &thing{dir: isDir}
	return api.OK
}

// remove takes away a directory, or a name of a file, as is asked.
func (s *shelf) remove(path string, isDir bool) api.Errno {
	x, e := s.walk(path)
	if e != api.OK {
		return e
	}
	if x.dir != isDir {
		return api.ErrKind
	}
	for p := range s.things {
		if strings.HasPrefix(p, path+"/") {
			return api.ErrBusy
		}
	}
	delete(s.things, path)
	return api.OK
}

func (s *shelf) link(path, to string) api.Errno {
	x, e := s.walk(path)
	if e != api.OK {
		return e
	}
	if e, _ := s.outside(to); e != api.OK {
		return e
	}
	if x.dir {
		return api.ErrKind
	}
	if e := s.vacant(to); e != api.OK {
		return e
	}
	s.things[to] = x
	return api.OK
}

func (s *shelf) rename(path, to string) api.Errno {
	e, _ := s.outside(path)
	if e != api.OK {
		return e
	}
	e, noDir := s.outside(to)
	if e != api.OK {
		return e
	}
	x, e := s.walk(path)
	if e != api.OK {
		return e
	}
	old := s.things[to]
	if x.dir || noDir || old != nil && old.dir {
		return api.ErrKind
	}
	if old != x {
		delete(s.things, path)
		s.things[to] = x
	}
	return api.OK
}

// open gives a handle, of a new file or of one that is there.
func (s *shelf) open(owner int, op api.Op) api.Res {
	if s.count(owner) == 8 {
		return api.Res{Err: api.ErrFull}
	}
	if op.Kind == api.OpCreate {
		if e := s.create(op.Path, false); e != api.OK {
			return api.Res{Err: e}
		}
	}
	x, e := s.walk(op.Path)
	if e != api.OK {
		return api.Res{Err: e}
	}
	if x.dir {
		return api.Res{Err: api.ErrKind}
	}
	h := 1
	for s.handles[[2]int{owner, h}] != nil {
		h++
	}
	s.handles[[2]int{owner, h}] = x
	return api.Res{N: h}
}

// resize lets a file have so many bytes.
func (s *shelf) resize(x *thing, n int) api.Errno {
	if n > api.MaxFile {
		return api.ErrFull
	}
	if n > len(x.data) && s.used()+n-len(x.data) > s.quota {
		return api.ErrSpace
	}
	for len(x.data) < n {
		x.data = append(x.data, 0)
	}
	x.data = x.data[:n]
	return api.OK
}

// through does an operation with a handle.
func (s *shelf) through(owner int, op api.Op) api.Res {
	x := s.handles[[2]int{owner, op.H}]
	switch {
	case x == nil:
		return api.Res{Err: api.ErrHandle}
	case op.Kind == api.OpClose:
		delete(s.handles, [2]int{owner, op.H})
		return api.Res{}
	case op.Kind == api.OpSize:
		return api.Res{N: len(x.data)}
	case op.Kind != api.OpTrunc && op.At < 0, op.Kind != api.OpWrite && op.N < 0:
		return api.Res{Err: api.ErrArg}
	case op.Kind == api.OpTrunc:
		return api.Res{Err: s.resize(x, op.N)}
	case op.Kind == api.OpRead:
		var b []byte
		for k := op.At; k < len(x.data) && len(b) < op.N; k++ {
			b = append(b, x.data[k])
		}
		return api.Res{Data: string(b)}
	case op.At > api.MaxFile-len(op.Data):
		return api.Res{Err: api.ErrFull}
	case op.Data == "":
		return api.Res{}
	}
	e := s.resize(x, max(len(x.data), op.At+len(op.Data)))
	if e == api.OK {
		copy(x.data[op.At:], op.Data)
	}
	return api.Res{Err: e}
}

func (s *shelf) list(path string) api.Res {
	x, e := s.walk(path)
	if e != api.OK {
		return api.Res{Err: e}
	}
	if !x.dir {
		return api.Res{Err: api.ErrKind}
	}
	var names []string
	for p := range s.things {
		if p != "" && p[:max(0, strings.LastIndex(p, "/"))] == path {
			names = append(names, p[strings.LastIndex(p, "/")+1:])
		}
	}
	slices.Sort(names)
	return api.Res{Names: names}
}

func (s *shelf) do(owner int, op api.Op) api.Res {
	pathly := op.Kind >= 1 && op.Kind <= 4 || op.Kind >= 10 && op.Kind <= 13
	twice := op.Kind == api.OpLink || op.Kind == api.OpRename
	bad := func(p string) bool {
		return p == "" && op.Kind != api.OpList || strings.HasPrefix(p, "/") || strings.HasSuffix(p, "/") || strings.Contains("/"+p+"/", "/../") || strings.Count(p, "/") > 7 || strings.Contains(p, "//")
	}
	if op.Kind < 1 || op.Kind > 13 || pathly && bad(op.Path) || twice && bad(op.To) {
		return api.Res{Err: api.ErrArg}
	}
	switch op.Kind {
	case api.OpMkdir:
		return api.Res{Err: s.create(op.Path, true)}
	case api.OpRmdir:
		return api.Res{Err: s.remove(op.Path, true)}
	case api.OpUnlink:
		return api.Res{Err: s.remove(op.Path, false)}
	case api.OpLink:
		return api.Res{Err: s.link(op.Path, op.To)}
	case api.OpRename:
		return api.Res{Err: s.rename(op.Path, op.To)}
	case api.OpList:
		return s.list(op.Path)
	case api.OpCreate, api.OpOpen:
		return s.open(owner, op)
	}
	return s.through(owner, op)
}

func (s *shelf) exit(owner int) {
	for h := range 9 {
		delete(s.handles, [2]int{owner, h})
	}
}

func (s *shelf) owners() []int {
	var l []int
	for h := range s.handles {
		l = append(l, h[0])
	}
	slices.Sort(l)
	return slices.Compact(l)
}

func (s *shelf) files() []api.File {
	var l []api.File
	for p, x := range s.things {
		if p != "" {
			l = append(l, api.File{Path: p, Dir: x.dir, Data: string(x.data)})
		}
	}
	slices.SortFunc(l, func(a, b api.File) int { return paths.Compare(a.Path, b.Path) })
	return l
}

// hold holds all that can be seen of a file system against a shelf.
func (s *shelf) hold(t *testing.T, f *simfs.FS) {
	t.Helper()
	if a, b := f.Files(), s.files(); !slices.Equal(a, b) {
		t.Fatalf("files: %v, not %v", a, b)
	}
	if a, b := f.Owners(), s.owners(); !slices.Equal(a, b) {
		t.Fatalf("owners: %v, not %v", a, b)
	}
	if f.Used() != s.used() || f.Used() > s.quota {
		t.Fatalf("used %d, not %d", f.Used(), s.used())
	}
}

// anyPath is mostly a path of few names, so that it is often there.
func anyPath(r *rand.Rand) string {
	if r.Intn(40) == 0 {
		return []string{"", "/a", "a/", "a//b", "d/../a", "a/b/a/b/a/b/a/b/a"}[r.Intn(6)]
	}
	names := []string{"a", "b", "d", "d-"}
	p := names[r.Intn(4)]
	for r.Intn(5) < 2 && strings.Count(p, "/") < 7 {
		p += "/" + names[r.Intn(4)]
	}
	return p
}

// anyOp is an operation that often can be done.
func anyOp(r *rand.Rand) api.Op {
	op := api.Op{Kind: 1 + r.Intn(13), Path: anyPath(r), To: anyPath(r), H: r.Intn(10), At: r.Intn(12), N: r.Intn(20), Data: "0123456789"[:r.Intn(10)]}
	if r.Intn(3) == 0 {
		op.H = 1 + r.Intn(3)
	}
	if r.Intn(60) == 0 {
		wild := []int{-api.MaxInt - 1, -1, 0, 14, 1 << 20, 1<<20 + 1, api.MaxInt}
		for _, n := range []*int{&op.Kind, &op.H, &op.At, &op.N} {
			if r.Intn(3) == 0 {
				*n = wild[r.Intn(len(wild))]
			}
		}
	}
	return op
}

// TestFs1Random holds random operations, exits and clones, call by call, against a shelf.
func TestFs1Random(t *testing.T) {
	seenErr := map[[2]int]int{}
	for seed := range int64(60) {
		r := rand.New(rand.NewSource(seed))
		quota := 64*(2+r.Intn(12)) + r.Intn(64)
		f, s := disk(t, quota), newShelf(quota)
		others, shelves := []*simfs.FS{f.Clone()}, []*shelf{s.clone()}
		for range 1500 {
			owner := []int{1, 1, 2, -3, 1 << 40}[r.Intn(5)]
			switch r.Intn(200) {
			case 0:
				f.Exit(owner)
				s.exit(owner)
			case 1: // go on with a clone, or with what it was made of
				others, shelves = append(others, f.Clone()), append(shelves, s.clone())
				k := r.Intn(len(others))
				f, others[k] = others[k], f
				s, shelves[k] = shelves[k], s
			}
			op := anyOp(r)
			asked := s.do(owner, op)
			if got := f.Do(owner, op); !same(got, asked) {
				t.Fatalf("seed %d, owner %d, %+v: %+v, not %+v", seed, owner, op, got, asked)
			}
			seenErr[[2]int{op.Kind, int(asked.Err)}]++
			s.hold(t, f)
		}
		for k := range others {
			shelves[k].hold(t, others[k])
		}
	}
	for kind := 1; kind <= 13; kind++ {
		if seenErr[[2]int{kind, 0}] < 50 {
			t.Errorf("kind %d: OK %d times only", kind, seenErr[[2]int{kind, 0}])
		}
	}
}

// TestFs3HandlesOutlastNames: whatever becomes of a file's name, its handles go on.
func TestFs3HandlesOutlastNames(t *testing.T) {
	for what, ops := range map[string][]api.Op{
		"nothing":                   {},
		"unlinked":                  {unlink("d/a")},
		"unlinked, and a file":      {unlink("d/a"), create("d/a")},
		"unlinked, and a directory": {unlink("d/a"), mkdir("d/a")},
		"without its directory":     {unlink("d/a"), rmdir("d")},
		"renamed":                   {rename("d/a", "z")},
		"renamed, and back":         {rename("d/a", "z"), rename("z", "d/a")},
		"renamed over another":      {rename("d/a", "b")},
		"renamed over":              {rename("b", "d/a")},
		"linked":                    {link("d/a", "z"), unlink("d/a"), link("z", "d/a"), unlink("z")},
		"linked, and renamed over":  {link("d/a", "z"), rename("b", "z"), unlink("d/a")},
	} {
		f := disk(t, 1<<16)
		all(t, f, 1, mkdir("d"), create("d/a"), write(1, 0, "abc"))
		all(t, f, 2, open("d/a"), create("b"), write(2, 0, "other"))
		all(t, f, 3, ops...)
		f.Exit(3)
		want(t, f, 1, read(1, 0, 9), api.Res{Data: "abc"})
		want(t, f, 2, write(1, 3, "def"), api.Res{})
		want(t, f, 1, trunc(1, 5), api.Res{})
		want(t, f, 2, read(1, 0, 9), api.Res{Data: "abcde"})
		want(t, f, 2, read(2, 0, 9), api.Res{Data: "other"})
		want(t, f, 1, shut(1), api.Res{})
		want(t, f, 2, size(1), api.Res{N: 5})
		if t.Failed() {
			t.Fatal(what)
		}
	}
}

func TestFs3RenamedAsAWhole(t *testing.T) {
	f := disk(t, 64*5+9)
	all(t, f, 1, mkdir("d"), create("d/a"), write(1, 0, "old"), create("t"), write(2, 0, "new"))
	all(t, f, 2, open("d/a"))
	want(t, f, 1, rename("t", "d/a"), api.Res{})
	if l := f.Files(); !slices.Equal(l, []api.File{{Path: "d", Dir: true}, {Path: "d/a", Data: "new"}}) || f.Used() != 64*4+6 {
		t.Error(l, f.Used())
	}
	want(t, f, 3, open("t"), api.Res{Err: api.ErrNone})
	want(t, f, 3, open("d/a"), api.Res{N: 1})
	want(t, f, 3, read(1, 0, 9), api.Res{Data: "new"})
	want(t, f, 2, read(1, 0, 9), api.Res{Data: "old"}) // opened ahead of it
	want(t, f, 1, write(2, 3, "er"), api.Res{})
	want(t, f, 3, read(1, 0, 9), api.Res{Data: "newer"})
	f.Exit(2)
	want(t, f, 1, read(1, 0, 9), api.Res{Data: "old"})
	want(t, f, 1, shut(1), api.Res{})
	if f.Used() != 64*3+5 {
		t.Error(f.Used())
	}
}

// TestFs3Example is the chapter's example.
func TestFs3Example(t *testing.T) {
	f := disk(t, 1<<16)
	want(t, f, 1, create("a"), api.Res{N: 1})
	want(t, f, 1, unlink("a"), api.Res{})
	want(t, f, 1, write(1, 0, "abc"), api.Res{})
	want(t, f, 1, read(1, 1, 9), api.Res{Data: "bc"})
	want(t, f, 1, open("a"), api.Res{Err: api.ErrNone})
	want(t, f, 1, shut(1), api.Res{})
	if f.Used() != 64 {
		t.Error(f.Used())
	}
}
