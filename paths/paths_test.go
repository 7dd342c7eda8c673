package paths_test

import (
	"math/rand"
	"slices"
	"strings"
	"testing"

	"cooperage/api"
	"cooperage/paths"
)

// words are all texts of at most so many of the pieces.
func words(most int, pieces ...string) []string {
	l := []string{""}
	last := l
	for range most {
		var longer []string
		for _, s := range last {
			for _, piece := range pieces {
				longer = append(longer, s+piece)
			}
		}
		l = append(l, longer...)
		last = longer
	}
	return l
}

// cut are what stands between a text's bytes '/', reckoned byte by byte; none for the empty text.
func cut(s string) []string {
	if s == "" {
		return nil
	}
	l := []string{""}
	for _, b := range []byte(s) {
		if b == '/' {
			l = append(l, "")
		} else {
			l[len(l)-1] += string([]byte{b})
		}
	}
	return l
}

// some is a canonical path from few names, some of which begin with others or sort ahead of a separator.
func some(r *rand.Rand) string {
	names := []string{"a", "a-", "a.", "a\x01", "aa", "b", "...", ".a", "..a", "\xff", ".wh.a"}
	var l []string
	for range r.Intn(api.MaxParts + 1) {
		l = append(l, names[r.Intn(len(names))])
	}
	return strings.Join(l, "/")
}

// somePaths are such paths from a fixed seed, each once, and the root.
func somePaths(seed int64, n int) []string {
	r := rand.New(rand.NewSource(seed))
	l := []string{""}
	for range n {
		l = append(l, some(r))
	}
	slices.Sort(l)
	return slices.Compact(l)
}

func wantClean(t *testing.T, s, want string) {
	t.Helper()
	if p, e := paths.Clean(s); p != want || e != api.OK {
		t.Errorf("Clean(%.200q) = %q, %d; want %q", s, p, e, want)
	}
}

func wantBad(t *testing.T, s string) {
	t.Helper()
	if p, e := paths.Clean(s); p != "" || e != api.ErrBad {
		t.Errorf("Clean(%.200q) = %q, %d; want ErrBad", s, p, e)
	}
}

func TestPa2Parts(t *testing.T) {
	for s, want := range map[string][]string{
		"": nil, "a": {"a"}, "a/b": {"a", "b"}, "a/b/c": {"a", "b", "c"}, "1/2/3/4/5/6/7/8": {"1", "2", "3", "4", "5", "6", "7", "8"}, ".a/..b/...": {".a", "..b", "..."}, "\xff/\x80": {"\xff", "\x80"},
		"/": {"", ""}, "//": {"", "", ""}, "/a": {"", "a"}, "a/": {"a", ""}, "a//b": {"a", "", "b"}, ".": {"."}, "./..": {".", ".."}, "a\x00/b": {"a\x00", "b"}, "1/2/3/4/5/6/7/8/9": {"1", "2", "3", "4", "5", "6", "7", "8", "9"},
	} {
		if l := paths.Parts(s); !slices.Equal(l, want) {
			t.Errorf("Parts(%q) = %q; want %q", s, l, want)
		}
	}
	if l := paths.Parts(strings.Repeat("/", 100000)); len(l) != 100001 || slices.Max(l) != "" {
		t.Errorf("Parts of 100000 separators: %d", len(l))
	}
	for _, s := range words(6, "a", ".", "/", "\x00") {
		if l := paths.Parts(s); !slices.Equal(l, cut(s)) {
			t.Errorf("Parts(%q) = %q; want %q", s, l, cut(s))
		}
	}
}

// What Parts answers shares nothing with another answer.
func TestPa2PartsMemory(t *testing.T) {
	l := paths.Parts("a/b/c")
	l[0], l[2] = "x", "y"
	if again := paths.Parts("a/b/c"); !slices.Equal(again, []string{"a", "b", "c"}) {
		t.Errorf("Parts = %q", again)
	}
}

func TestPa2Split(t *testing.T) {
	for s, want := range map[string][2]string{
		"": {"", ""}, "a": {"", "a"}, "a/b": {"a", "b"}, "a/b/c": {"a/b", "c"}, "1/2/3/4/5/6/7/8": {"1/2/3/4/5/6/7", "8"}, ".a/...": {".a", "..."}, "\xff/\x80": {"\xff", "\x80"},
		"/": {"", ""}, "//": {"/", ""}, "/a": {"", "a"}, "a/": {"a", ""}, "a//b": {"a/", "b"}, "//a": {"/", "a"}, "a//": {"a/", ""}, ".": {"", "."}, "./..": {".", ".."}, "\x00": {"", "\x00"},
	} {
		if dir, name := paths.Split(s); dir != want[0] || name != want[1] {
			t.Errorf("Split(%q) = %q, %q; want %q", s, dir, name, want)
		}
	}
	for _, s := range words(6, "a", ".", "/", "\x00") {
		dir, name := paths.Split(s)
		l := cut(s)
		if len(l) == 0 && dir+name != "" || len(l) > 0 && (dir != strings.Join(l[:len(l)-1], "/") || name != l[len(l)-1]) {
			t.Errorf("Split(%q) = %q, %q", s, dir, name)
		}
	}
}

func TestPa2Join(t *testing.T) {
	for _, x := range [][3]string{
		{"", "", ""}, {"", "a", "a"}, {"b", "", "b"}, {"a", "b", "a/b"}, {"a/b", "c", "a/b/c"}, {"a/b", "", "a/b"}, {"", "a/b", "a/b"}, {"a/b", "c/d", "a/b/c/d"}, {"1/2/3/4/5/6/7", "8", "1/2/3/4/5/6/7/8"},
		{"", "/", "/"}, {"/", "", "/"}, {"//", "", "//"}, {"/", "/", "///"}, {"a", "/", "a//"}, {"/", "b", "//b"}, {"a/", "b", "a//b"}, {"a", "/b", "a//b"}, {".", "..", "./.."}, {"1/2/3/4/5/6/7/8", "9", "1/2/3/4/5/6/7/8/9"}, {"\x00", "\xff", "\x00/\xff"},
	} {
		if p := paths.Join(x[0], x[1]); p != x[2] {
			t.Errorf("Join(%q, %q) = %q; want %q", x[0], x[1], p, x[2])
		}
	}
	long := strings.Repeat("x", 1000)
	if p := paths.Join(long, long); p != long+"/"+long {
		t.Errorf("Join of long texts = %q", p)
	}
}

func wantUnder(t *testing.T, p, dir string, want bool) {
	t.Helper()
	if got := paths.Under(p, dir); got != want {
		t.Errorf("Under(%q, %q) = %v", p, dir, got)
	}
}

func TestPa2Under(t *testing.T) {
	for _, x := range [][2]string{
		{"a", ""}, {"a/b", ""}, {"a/b", "a"}, {"a/b/c", "a"}, {"a/b/c", "a/b"}, {"1/2/3/4/5/6/7/8", "1/2/3/4/5/6/7"}, {"a/a", "a"}, {"\xff/\x80", "\xff"},
		{"/", ""}, {"//", ""}, {"/a", ""}, {"a/", "a"}, {"a//", "a"}, {"a//b", "a/"}, {"//", "/"}, {"./..", "."}, {"\x00/a", "\x00"},
	} {
		wantUnder(t, x[0], x[1], true)
		wantUnder(t, x[1], x[0], false)
	}
	for _, x := range [][2]string{
		{"", ""}, {"a", "a"}, {"a/b", "a/b"}, {"a", "b"}, {"ab", "a"}, {"a", "ab"}, {"ab/c", "a"}, {"a/bc", "a/b"}, {"a-/b", "a"}, {"b/a", "a"}, {"a/b/c", "b"}, {"a/b/c", "b/c"}, {"a/b", "A"},
		{"/", "/"}, {"/a", "/"}, {"a", "/"}, {"a/b", "a/"}, {"/a", "a"}, {"a/b", "./a"}, {"./a", "a"},
	} {
		wantUnder(t, x[0], x[1], false)
		wantUnder(t, x[1], x[0], false)
	}
}

func wantCompare(t *testing.T, a, b string, want int) {
	t.Helper()
	if n := paths.Compare(a, b); n != want {
		t.Errorf("Compare(%q, %q) = %d; want %d", a, b, n, want)
	}
	if n := paths.Compare(b, a); n != -want {
		t.Errorf("Compare(%q, %q) = %d; want %d", b, a, n, -want)
	}
}

func TestPa2Compare(t *testing.T) {
	for _, x := range [][2]string{
		{"", "a"}, {"", "\x01"}, {"a", "b"}, {"a", "z"}, {"A", "a"}, {"a", "aa"}, {"a", "a/b"}, {"a", "a/b/c"}, {"a/b", "a/b/c"}, {"a/b", "a/c"}, {"a/z", "b"}, {"a/z/z", "b/a"}, {"a/b/z", "a/c"},
		{"a/b", "a-"}, {"a/b", "a-/a"}, {"a/b", "a."}, {"a/z", "a\x01"}, {"a/b", "a!b"}, {"a", "a\x01"}, {"9", "a"}, {"10", "9"}, {"a\x7f", "a\x80"}, {"a", "\xff"}, {"\x7f", "\x80"}, {"\xc3\xa9", "\xff"}, {"a/\x7f", "a/\x80"},
		{"", "/"}, {"/", "//"}, {"/", "a"}, {"/a", "/b"}, {"/z", "a"}, {"a", "a/"}, {"a/", "a/b"}, {"a//b", "a/b"}, {"a/", "a\x00"}, {"a/b", "a\x00"}, {"a", "a\x00"}, {"/", "\x00"}, {".", ".."}, {"./a", ".."},
	} {
		wantCompare(t, x[0], x[1], -1)
	}
	for _, s := range []string{"", "a", "a/b", "1/2/3/4/5/6/7/8", "/", "//", "a/", "/a", "\x00", "\xff/\x80", strings.Repeat("/", 1000)} {
		wantCompare(t, s, s, 0)
	}
}

// told is what Under and Compare are to answer, name by name.
func told(a, b string) (bool, int) {
	l, m := cut(a), cut(b)
	for i := range l {
		if i == len(m) {
			return true, 1
		}
		if l[i] != m[i] {
			return false, strings.Compare(l[i], m[i])
		}
	}
	if len(m) > len(l) {
		return false, -1
	}
	return false, 0
}

func TestPa2Pairs(t *testing.T) {
	short := words(4, "a", "-", "/", "\x00")
	for _, l := range [][]string{short, somePaths(71, 300)} {
		for _, a := range l {
			for _, b := range l {
				under, order := told(a, b)
				if paths.Under(a, b) != under || paths.Compare(a, b) != order {
					t.Errorf("Under(%q, %q) = %v, Compare = %d; want %v, %d", a, b, paths.Under(a, b), paths.Compare(a, b), under, order)
				}
			}
		}
	}
}

// In the order of Compare, what is under a directory follows it, and nothing else is in between.
func TestPa4Follows(t *testing.T) {
	l := somePaths(72, 1500)
	r := rand.New(rand.NewSource(73))
	r.Shuffle(len(l), func(i, j int) { l[i], l[j] = l[j], l[i] })
	slices.SortFunc(l, paths.Compare)
	for i := 1; i < len(l); i++ {
		wantCompare(t, l[i-1], l[i], -1)
	}
	for i, dir := range l {
		inside := true
		for _, p := range l[i+1:] {
			under := paths.Under(p, dir)
			if under && !inside {
				t.Errorf("%q is under %q, but stands apart from it", p, dir)
			}
			inside = under
		}
		if slices.ContainsFunc(l[:i], func(p string) bool { return paths.Under(p, dir) }) {
			t.Errorf("something under %q stands ahead of it", dir)
		}
	}
}

// A canonical path is as it was when it is put together from its names, or from its directory and its last name, and when it is cleaned.
func TestPa4Together(t *testing.T) {
	for _, p := range somePaths(74, 2000) {
		wantClean(t, p, p)
		whole := ""
		for _, name := range paths.Parts(p) {
			whole = paths.Join(whole, name)
		}
		if whole != p || strings.Join(paths.Parts(p), "/") != p {
			t.Errorf("the names of %q together: %q", p, whole)
		}
		dir, name := paths.Split(p)
		if paths.Join(dir, name) != p || paths.Under(p, dir) != (p != "") || strings.Contains(name, "/") {
			t.Errorf("Split(%q) = %q, %q", p, dir, name)
		}
		wantClean(t, dir, dir)
		wantClean(t, name, name)
	}
}
