package inode_test

import (
	"fmt"
	"math/rand"
	"reflect"
	"slices"
	"sort"
	"strings"
	"testing"

	"cooperage/api"
	"cooperage/inode"
)

// lines is a table of another make: inodes and names are lines in lists, searched from end to end; nothing is counted ahead.
type lines struct {
	quota  int
	last   int
	inodes []line
	names  []leading
}

type line struct {
	id    int
	dir   bool
	holds int
	data  string
}

type leading struct {
	dir  int
	name string
	id   int
}

func newLines(quota int) *lines {
	return &lines{quota: quota, last: 1, inodes: []line{{id: 1, dir: true}}}
}

func (l *lines) clone() *lines {
	c := *l
	c.inodes, c.names = slices.Clone(l.inodes), slices.Clone(l.names)
	return &c
}

// at is the place of an inode in the list; -1: there is none.
func (l *lines) at(id int) int {
	return slices.IndexFunc(l.inodes, func(n line) bool { return n.id == id })
}

// where is the place of a name in the list; -1: it is not there.
func (l *lines) where(dir int, name string) int {
	return slices.IndexFunc(l.names, func(n leading) bool { return n.dir == dir && n.name == name })
}

func (l *lines) links(id int) int {
	n := 0
	for _, x := range l.names {
		if x.id == id {
			n++
		}
	}
	return n
}

func (l *lines) used() int {
	n := 0
	for _, x := range l.inodes {
		n += 64 + len(x.data)
	}
	return n
}

// sweep removes what is neither the root, nor reached, nor held.
func (l *lines) sweep() {
	l.inodes = slices.DeleteFunc(l.inodes, func(n line) bool { return n.id != 1 && n.holds == 0 && l.links(n.id) == 0 })
}

// first is the first error whose condition holds; those behind it are not asked.
func first(list ...func() api.Errno) api.Errno {
	for _, f := range list {
		if e := f(); e != api.OK {
			return e
		}
	}
	return api.OK
}

// when is an error on a condition.
func when(bad bool, e api.Errno) api.Errno {
	if bad {
		return e
	}
	return api.OK
}

func (l *lines) none(id int) func() api.Errno {
	return func() api.Errno { return when(l.at(id) < 0, api.ErrNone) }
}

func (l *lines) kind(id int, dir bool) func() api.Errno {
	return func() api.Errno { return when(l.inodes[l.at(id)].dir != dir, api.ErrKind) }
}

func (l *lines) name(s string) func() api.Errno {
	return func() api.Errno { return when(!isName(s), api.ErrArg) }
}

func (l *lines) exist(dir int, name string) func() api.Errno {
	return func() api.Errno { return when(l.where(dir, name) >= 0, api.ErrExist) }
}

func (l *lines) missing(dir int, name string) func() api.Errno {
	return func() api.Errno { return when(l.where(dir, name) < 0, api.ErrNone) }
}

func (l *lines) kindAt(dir int, name string, isDir bool) func() api.Errno {
	return func() api.Errno { return l.kind(l.names[l.where(dir, name)].id, isDir)() }
}

func (l *lines) full(n int) func() api.Errno {
	return func() api.Errno { return when(n > 1<<20, api.ErrFull) }
}

func (l *lines) space(more int) func() api.Errno {
	return func() api.Errno { return when(l.used()+more > l.quota, api.ErrSpace) }
}

func arg(n int) func() api.Errno {
	return func() api.Errno { return when(n < 0, api.ErrArg) }
}

func (l *lines) make(dir int, name string, isDir bool) (int, api.Errno) {
	e := first(l.none(dir), l.kind(dir, true), l.name(name), l.exist(dir, name), l.space(64))
	if e != api.OK {
		return 0, e
	}
	l.last++
	l.inodes = append(l.inodes, line{id: l.last, dir: isDir})
	l.names = append(l.names, leading{dir, name, l.last})
	return l.last, api.OK
}

func (l *lines) find(dir int, name string) (int, api.Errno) {
	e := first(l.none(dir), l.kind(dir, true), l.name(name), l.missing(dir, name))
	if e != api.OK {
		return 0, e
	}
	return l.names[l.where(dir, name)].id, api.OK
}

func (l *lines) link(id, dir int, name string) api.Errno {
	e := first(l.none(id), l.kind(id, false), l.none(dir), l.kind(dir, true), l.name(name), l.exist(dir, name))
	if e == api.OK {
		l.names = append(l.names, leading{dir, name, id})
	}
	return e
}

func (l *lines) unlink(dir int, name string) api.Errno {
	e := first(l.none(dir), l.kind(dir, true), l.name(name), l.missing(dir, name), l.kindAt(dir, name, false))
	if e == api.OK {
		k := l.where(dir, name)
		l.names = slices.Delete(l.names, k, k+1)
		l.sweep()
	}
	return e
}

func (l *lines) remove(dir int, name string) api.Errno {
	busy := func() api.Errno {
		id := l.names[l.where(dir, name)].id
		return when(slices.ContainsFunc(l.names, func(n leading) bool { return n.dir == id }), api.ErrBusy)
	}
	e := first(l.none(dir), l.kind(dir, true), l.name(name), l.missing(dir, name), l.kindAt(dir, name, true), busy)
	if e == api.OK {
		k := l.where(dir, name)
		l.names = slices.Delete(l.names, k, k+1)
		l.sweep()
	}
	return e
}

func (l *lines) rename(dir int, name string, to int, as string) api.Errno {
	over := func() api.Errno {
		if l.where(to, as) < 0 {
			return api.OK
		}
		return l.kindAt(to, as, false)()
	}
	e := first(l.none(dir), l.kind(dir, true), l.name(name), l.missing(dir, name), l.kindAt(dir, name, false), l.none(to), l.kind(to, true), l.name(as), over)
	if e != api.OK {
		return e
	}
	id := l.names[l.where(dir, name)].id
	if k := l.where(to, as); k >= 0 {
		if l.names[k].id == id {
			return api.OK
		}
		l.names = slices.Delete(l.names, k, k+1)
	}
	k := l.where(dir, name)
	l.names[k] = leading{to, as, id}
	l.sweep()
	return api.OK
}

func (l *lines) list(dir int) ([]string, api.Errno) {
	if e := first(l.none(dir), l.kind(dir, true)); e != api.OK {
		return nil, e
	}
	var names []string
	for _, n := range l.names {
		if n.dir == dir {
			names = append(names, n.name)
		}
	}
	sort.Strings(names)
	return names, api.OK
}

func (l *lines) read(id, at, n int) (string, api.Errno) {
	if e := first(l.none(id), l.kind(id, false), arg(at), arg(n)); e != api.OK {
		return "", e
	}
	data := l.inodes[l.at(id)].data
	var b []byte
	for k := at; k < len(data) && len(b) < n; k++ {
		b = append(b, data[k])
	}
	return string(b), api.OK
}

func (l *lines) write(id, at int, s string) api.Errno {
	grown := func() api.Errno {
		return when(s != "" && l.space(max(0, at+len(s)-len(l.inodes[l.at(id)].data)))() != api.OK, api.ErrSpace)
	}
	e := first(l.none(id), l.kind(id, false), arg(at), l.full(at+len(s)), grown)
	if e != api.OK || s == "" {
		return e
	}
	n := &l.inodes[l.at(id)]
	b := []byte(n.data)
	for k := range len(s) {
		for len(b) <= at+k {
			b = append(b, 0)
		}
		b[at+k] = s[k]
	}
	n.data = string(b)
	return api.OK
}

func (l *lines) truncate(id, n int) api.Errno {
	grown := func() api.Errno { return l.space(max(0, n-len(l.inodes[l.at(id)].data)))() }
	e := first(l.none(id), l.kind(id, false), arg(n), l.full(n), grown)
	if e == api.OK {
		x := &l.inodes[l.at(id)]
		x.data = (x.data + strings.Repeat("\x00", n))[:n]
	}
	return e
}

func (l *lines) hold(id int) api.Errno {
	e := first(l.none(id), l.kind(id, false))
	if e == api.OK {
		l.inodes[l.at(id)].holds++
	}
	return e
}

func (l *lines) drop(id int) api.Errno {
	e := first(l.none(id), func() api.Errno { return when(l.inodes[l.at(id)].holds == 0, api.ErrArg) })
	if e == api.OK {
		l.inodes[l.at(id)].holds--
		l.sweep()
	}
	return e
}

func (l *lines) nodes() []api.Node {
	var list []api.Node
	for _, n := range l.inodes {
		x := api.Node{Id: n.id, Dir: n.dir, Links: l.links(n.id), Holds: n.holds, Data: n.data}
		if n.id == 1 {
			x.Links = 1
		}
		names, _ := l.list(n.id)
		for _, s := range names {
			x.Names = append(x.Names, api.Entry{Name: s, Id: l.names[l.where(n.id, s)].id})
		}
		list = append(list, x)
	}
	return list
}

// same tells whether two lists of inodes are, however empty lists are written.
func same(a, b []api.Node) bool {
	return slices.EqualFunc(a, b, func(x, y api.Node) bool {
		names := slices.Equal(x.Names, y.Names)
		x.Names, y.Names = nil, nil
		return names && reflect.DeepEqual(x, y)
	})
}

// sound tells what in a table is not as In4 says.
func sound(x *inode.Table, quota int) string {
	l := x.Nodes()
	used, leadTo, byId := 0, map[int]int{1: 1}, map[int]api.Node{}
	for k, n := range l {
		if k > 0 && l[k-1].Id >= n.Id {
			return "numbers do not ascend"
		}
		byId[n.Id] = n
		used += 64 + len(n.Data)
		if n.Dir && (n.Holds != 0 || n.Data != "") || !n.Dir && len(n.Names) != 0 {
			return "a directory, or a file, has what it may not"
		}
		for i, y := range n.Names {
			leadTo[y.Id]++
			if i > 0 && n.Names[i-1].Name >= y.Name || !isName(y.Name) {
				return "names are not in order"
			}
		}
	}
	for _, n := range l {
		if n.Links != leadTo[n.Id] || n.Links == 0 && n.Holds == 0 {
			return fmt.Sprint("links of ", n.Id)
		}
		delete(leadTo, n.Id)
	}
	if len(leadTo) != 0 {
		return "a name leads to nothing"
	}
	if used != x.Used() || used > quota {
		return fmt.Sprint("used ", x.Used(), " not ", used)
	}
	reached := map[int]bool{}
	var walk func(id int)
	walk = func(id int) {
		reached[id] = true
		for _, y := range byId[id].Names {
			walk(y.Id)
		}
	}
	walk(1)
	for _, n := range l {
		if !reached[n.Id] && n.Holds == 0 {
			return fmt.Sprint("neither reached nor held: ", n.Id)
		}
	}
	return ""
}

// pair are a table and its lines, which random calls are to keep alike.
type pair struct {
	t *testing.T
	r *rand.Rand
	x *inode.Table
	l *lines
}

// id is a number of an inode, often one that is there.
func (p *pair) id() int {
	if p.r.Intn(8) == 0 {
		return p.r.Intn(p.l.last+3) - 1
	}
	return p.l.inodes[p.r.Intn(len(p.l.inodes))].id
}

// dir is the number of a directory, mostly.
func (p *pair) dir() int {
	for range 3 {
		if id := p.id(); p.l.at(id) >= 0 && p.l.inodes[p.l.at(id)].dir {
			return id
		}
	}
	return p.id()
}

func (p *pair) name() string {
	if p.r.Intn(20) == 0 {
		return []string{"", ".", "..", "a/b", "a\x00", strings.Repeat("n", 33)}[p.r.Intn(6)]
	}
	return []string{"a", "b", "c", "d", "...", strings.Repeat("n", 32)}[p.r.Intn(6)]
}

// place is a name in a directory, often one that is there.
func (p *pair) place() (int, string) {
	if len(p.l.names) > 0 && p.r.Intn(3) > 0 {
		n := p.l.names[p.r.Intn(len(p.l.names))]
		return n.dir, n.name
	}
	return p.dir(), p.name()
}

func (p *pair) number() int {
	return []int{-1, 0, 1, 2, 3, 5, 30, 90, 1 << 20, 1<<20 + 1, p.r.Intn(50)}[p.r.Intn(11)]
}

func (p *pair) text() string {
	return []string{"", "x", "yz", "0123456789abcdef", "\x00", strings.Repeat("q", 70)}[p.r.Intn(6)]
}

// step does one random call on both, and tells what they answered.
func (p *pair) step() (what string, got, asked any) {
	type two struct {
		v any
		e api.Errno
	}
	switch k := p.r.Intn(14); k {
	case 0, 1:
		dir, name, isDir := p.dir(), p.name(), p.r.Intn(3) == 0
		g, e := p.x.Make(dir, name, isDir)
		a, f := p.l.make(dir, name, isDir)
		return fmt.Sprintf("Make(%d, %q, %t)", dir, name, isDir), two{g, e}, two{a, f}
	case 2:
		dir, name := p.place()
		g, e := p.x.Find(dir, name)
		a, f := p.l.find(dir, name)
		return fmt.Sprintf("Find(%d, %q)", dir, name), two{g, e}, two{a, f}
	case 3:
		id := p.id()
		dir, name := p.dir(), p.name()
		return fmt.Sprintf("Link(%d, %d, %q)", id, dir, name), p.x.Link(id, dir, name), p.l.link(id, dir, name)
	case 4:
		dir, name := p.place()
		return fmt.Sprintf("Unlink(%d, %q)", dir, name), p.x.Unlink(dir, name), p.l.unlink(dir, name)
	case 5:
		dir, name := p.place()
		return fmt.Sprintf("Remove(%d, %q)", dir, name), p.x.Remove(dir, name), p.l.remove(dir, name)
	case 6, 7:
		dir, name := p.place()
		to, as := p.place()
		return fmt.Sprintf("Rename(%d, %q, %d, %q)", dir, name, to, as), p.x.Rename(dir, name, to, as), p.l.rename(dir, name, to, as)
	case 8:
		dir := p.dir()
		g, e := p.x.List(dir)
		a, f := p.l.list(dir)
		return fmt.Sprintf("List(%d)", dir), two{strings.Join(g, " "), e}, two{strings.Join(a, " "), f}
	case 9:
		id, at, n := p.id(), p.number(), p.number()
		g, e := p.x.Read(id, at, n)
		a, f := p.l.read(id, at, n)
		return fmt.Sprintf("Read(%d, %d, %d)", id, at, n), two{g, e}, two{a, f}
	case 10:
		id, at, s := p.id(), p.number(), p.text()
		return fmt.Sprintf("Write(%d, %d, %q)", id, at, s), p.x.Write(id, at, s), p.l.write(id, at, s)
	case 11:
		id, n := p.id(), p.number()
		return fmt.Sprintf("Truncate(%d, %d)", id, n), p.x.Truncate(id, n), p.l.truncate(id, n)
	case 12:
		id := p.id()
		return fmt.Sprintf("Hold(%d)", id), p.x.Hold(id), p.l.hold(id)
	default:
		id := p.id()
		return fmt.Sprintf("Drop(%d)", id), p.x.Drop(id), p.l.drop(id)
	}
}

// failed tells whether what a call answered has an error.
func failed(answer any) bool {
	v := reflect.ValueOf(answer)
	if v.Kind() == reflect.Struct {
		v = v.Field(1)
	}
	return v.Int() != 0
}

// run does random calls, and holds both against each other behind each of them.
func (p *pair) run(calls int) {
	for range calls {
		before := p.x.Nodes()
		what, got, asked := p.step()
		if got != asked {
			p.t.Fatalf("%s: %v, not %v", what, got, asked)
		}
		after := p.x.Nodes()
		if failed(got) && !same(before, after) {
			p.t.Fatalf("%s: was refused, and changed %v to %v", what, before, after)
		}
		if !same(after, p.l.nodes()) {
			p.t.Fatalf("%s: %v, not %v", what, after, p.l.nodes())
		}
		if s := sound(p.x, p.l.quota); s != "" {
			p.t.Fatalf("%s: %s: %v", what, s, after)
		}
	}
}

func TestIn4RandomCalls(t *testing.T) {
	for seed := range 60 {
		r := rand.New(rand.NewSource(int64(seed)))
		quota := []int{64, 130, 64*5 + 10, 64*12 + 30, 64 * 40, 1 << 22}[seed%6]
		p := &pair{t, r, table(t, quota), newLines(quota)}
		p.run(600)
	}
}

// TestIn4Clones: a clone is as what it was made of, and neither knows what becomes of the other one.
func TestIn4Clones(t *testing.T) {
	for seed := range 20 {
		r := rand.New(rand.NewSource(int64(1000 + seed)))
		all := []*pair{{t, r, table(t, 64*15), newLines(64 * 15)}}
		for range 60 {
			p := all[r.Intn(len(all))]
			p.run(20)
			q := &pair{t, r, p.x.Clone(), p.l.clone()}
			if q.x == nil || q.x == p.x || !same(q.x.Nodes(), p.x.Nodes()) || q.x.Used() != p.x.Used() {
				t.Fatal("a clone is another one")
			}
			all = append(all, q)
		}
		for _, p := range all {
			if !same(p.x.Nodes(), p.l.nodes()) {
				t.Fatalf("%v, not %v", p.x.Nodes(), p.l.nodes())
			}
		}
	}
}

// TestIn3NodesAreNewMemory: what is done to the lists that Nodes answers does nothing to the table.
func TestIn3NodesAreNewMemory(t *testing.T) {
	x := table(t, 1000)
	d := made(t, x, 1, "d", true)
	made(t, x, d, "f", false)
	before := x.Nodes()
	l := x.Nodes()
	for k := range l {
		for i := range l[k].Names {
			l[k].Names[i] = api.Entry{Name: "other", Id: 77}
		}
		l[k].Names = append(l[k].Names, api.Entry{Name: "more", Id: 78})
		l[k] = api.Node{}
	}
	if !same(x.Nodes(), before) || leads(x, 1, "d") != d {
		t.Error(x.Nodes())
	}
}
