package paths_test

import (
	"math/rand"
	"regexp"
	"slices"
	"strings"
	"testing"

	"cooperage/api"
	"cooperage/paths"
)

func TestPa1Clean(t *testing.T) {
	for s, want := range map[string]string{
		"": "", ".": "", "./": "", "./.": "", ".//.//": "", "a": "a", "a/": "a", "a//": "a", "a/.": "a", "./a": "a", ".//a": "a", "./a//b/": "a/b", "a/./b/.": "a/b", "a/b/c": "a/b/c", "a///././//b": "a/b",
		"...": "...", "....": "....", ".a": ".a", "..a": "..a", "a.": "a.", "a..": "a..", "a../..b": "a../..b", ".a/./...": ".a/...", " ": " ", "a b": "a b", ".. ": ".. ", "\\": "\\", "a\\..\\b": "a\\..\\b",
		".wh.a": ".wh.a", ".wh..wh..opq": ".wh..wh..opq", "a/.wh.b": "a/.wh.b", ".wh.": ".wh.", "\xff": "\xff", "\xc3\xa9/\xe2\x82": "\xc3\xa9/\xe2\x82", "A": "A", "\x01\n\x7f": "\x01\n\x7f",
	} {
		wantClean(t, s, want)
	}
}

func TestPa1Bad(t *testing.T) {
	for _, s := range []string{
		"/", "//", "/.", "/./", "/a", "//a", "/a/b", "/..", "/" + strings.Repeat("x", 33),
		"..", "../", "./..", "../a", "../x", "a/..", "a/../", "a/../b", "a/b/..", "a/./..", "a//..//b", ".././a",
		"\x00", "a\x00", "\x00a", "a\x00b", "a/\x00", "\x00/a", "a/b\x00/c", ".\x00", "..\x00", "./\x00", "a/.\x00",
	} {
		wantBad(t, s)
	}
}

// Each byte, alone, and within a name: only 0 cannot stand there, and '/' divides.
func TestPa1Bytes(t *testing.T) {
	for b := range 256 {
		s := string([]byte{byte(b)})
		switch b {
		case 0:
			wantBad(t, s)
			wantBad(t, "a"+s+"b")
		case '/':
			wantBad(t, s)
			wantClean(t, "a"+s+"b", "a/b")
		case '.':
			wantClean(t, s, "")
			wantBad(t, s+s)
			wantClean(t, "a"+s+"b", "a.b")
		default:
			wantClean(t, s, s)
			wantClean(t, "a/"+s, "a/"+s)
			wantClean(t, "a"+s+"b", "a"+s+"b")
			wantClean(t, ".."+s, ".."+s)
		}
	}
}

// Names of each length, in each place of a path.
func TestPa1NameLength(t *testing.T) {
	for n := 1; n <= 40; n++ {
		name := strings.Repeat("x", n)
		for _, p := range []string{name, "a/" + name, name + "/a", "a/" + name + "/b", "./" + name + "/", strings.Repeat("y", n)} {
			if n > api.MaxName {
				wantBad(t, p)
			} else {
				wantClean(t, p, strings.TrimSuffix(strings.TrimPrefix(p, "./"), "/"))
			}
		}
	}
	wantBad(t, strings.Repeat("x", 97))
	wantBad(t, strings.Repeat(".", 33))
	wantClean(t, strings.Repeat(".", 32), strings.Repeat(".", 32))
	wantClean(t, strings.Repeat("\xff", 32), strings.Repeat("\xff", 32))
	wantBad(t, strings.Repeat("\xc3\xa9", 17)) // bytes count, not letters
	wantBad(t, strings.Repeat("x", 1<<20))
}

// Paths of each length from names that may all be there: the parts that are omitted do not count.
func TestPa1PathLength(t *testing.T) {
	name := strings.Repeat("x", 32)
	for n := 1; n <= 32; n++ {
		last := strings.Repeat("z", n)
		for _, dir := range []string{name + "/" + name, name + "/" + name[:31], name[:12] + "/" + name[:20] + "/" + name, "1/2/3/4/5/" + name + "/" + name[:24]} {
			p := dir + "/" + last
			if len(p) > api.MaxPath {
				wantBad(t, p)
				wantBad(t, "./"+p+"/")
				continue
			}
			wantClean(t, p, p)
			wantClean(t, strings.Repeat("./", 100)+p+strings.Repeat("/", 100), p)
			wantClean(t, strings.ReplaceAll(p, "/", "/././/"), p)
		}
	}
	most := name + "/" + name + "/" + name[:30]
	if len(most) != 96 {
		t.Fatal(len(most))
	}
	wantClean(t, most, most)
	wantBad(t, most+"x")
	wantBad(t, name+"/"+name+"/"+name[:28]+"/yy")
}

// Names of each number: the parts that are omitted do not count.
func TestPa1NameCount(t *testing.T) {
	for n := 1; n <= 20; n++ {
		p := strings.Repeat("a/", n)
		dotted := strings.Repeat("./a//", n)
		if n > api.MaxParts {
			wantBad(t, p)
			wantBad(t, dotted)
			continue
		}
		wantClean(t, p, p[:2*n-1])
		wantClean(t, dotted, p[:2*n-1])
	}
	wantClean(t, strings.Repeat("./", 1<<20), "")
	wantClean(t, strings.Repeat("./", 1<<20)+"a", "a")
	wantBad(t, strings.Repeat("./", 1<<20)+"..")
	wantBad(t, strings.Repeat("a/", 1<<20))
	wantBad(t, strings.Repeat("/", 1<<20))
	wantBad(t, strings.Repeat("a/", 8)+"..")
	wantClean(t, strings.Repeat("a/", 8)+".", "a/a/a/a/a/a/a/a")
}

// canonical is the form of a canonical path, and dots that of one with a forbidden name.
var (
	canonical = regexp.MustCompile(`^([^/\x00]{1,32}(/[^/\x00]{1,32}){0,7})?$`)
	dots      = regexp.MustCompile(`(^|/)\.\.?(/|$)`)
)

// letters has a letter for each byte of a text, for patterns go by letters.
func letters(s string) string {
	var l []rune
	for _, b := range []byte(s) {
		l = append(l, rune(b))
	}
	return string(l)
}

// toldClean is what Clean is to answer.
func toldClean(s string) (string, api.Errno) {
	parts := slices.DeleteFunc(cut(s), func(part string) bool { return part == "" || part == "." })
	p := strings.Join(parts, "/")
	if strings.HasPrefix(s, "/") || len(p) > 96 || !canonical.MatchString(letters(p)) || dots.MatchString(p) {
		return "", api.ErrBad
	}
	return p, api.OK
}

func TestPa1Short(t *testing.T) {
	for _, s := range words(7, "a", ".", "/") {
		holdClean(t, s)
	}
	for _, s := range words(4, "a", ".", "/", "\x00", "\xff", "..", "./") {
		holdClean(t, s)
	}
}

func TestPa1Random(t *testing.T) {
	r := rand.New(rand.NewSource(75))
	pieces := []string{"a", "bc", ".", "/", "/", "/", "./", "..", "x\x01", "\xff", strings.Repeat("y", 15), strings.Repeat("z", 32)}
	good := 0
	for range 4000 {
		var s strings.Builder
		for range r.Intn(16) {
			s.WriteString(pieces[r.Intn(len(pieces))])
		}
		if holdClean(t, s.String()) {
			good++
		}
	}
	if good < 500 {
		t.Errorf("only %d of the texts are paths", good)
	}
}

// holdClean holds what Clean answers against what is told, and cleans what is clean once more.
func holdClean(t *testing.T, s string) bool {
	t.Helper()
	want, e := toldClean(s)
	if e != api.OK {
		wantBad(t, s)
		return false
	}
	wantClean(t, s, want)
	wantClean(t, want, want)
	return true
}

func TestPa3Mark(t *testing.T) {
	for _, x := range []struct {
		name string
		kind int
		text string
	}{
		{"", api.MarkNone, ""}, {"a", api.MarkNone, "a"}, {".", api.MarkNone, "."}, {"..", api.MarkNone, ".."}, {"...", api.MarkNone, "..."}, {".wh", api.MarkNone, ".wh"}, {"wh.", api.MarkNone, "wh."}, {"wh.a", api.MarkNone, "wh.a"}, {".w", api.MarkNone, ".w"}, {".wha", api.MarkNone, ".wha"}, {".wh-a", api.MarkNone, ".wh-a"}, {".WH.a", api.MarkNone, ".WH.a"}, {".Wh.a", api.MarkNone, ".Wh.a"}, {"a.wh.b", api.MarkNone, "a.wh.b"}, {"..wh.a", api.MarkNone, "..wh.a"}, {" .wh.a", api.MarkNone, " .wh.a"}, {"a/.wh.b", api.MarkNone, "a/.wh.b"}, {"a.wh..wh..opq", api.MarkNone, "a.wh..wh..opq"}, {"\x00.wh.a", api.MarkNone, "\x00.wh.a"},
		{".wh.a", api.MarkGone, "a"}, {".wh.ab.c", api.MarkGone, "ab.c"}, {".wh..a", api.MarkGone, ".a"}, {".wh...a", api.MarkGone, "..a"}, {".wh....", api.MarkGone, "..."}, {".wh.....", api.MarkGone, "...."}, {".wh.wh.", api.MarkGone, "wh."}, {".wh..wh", api.MarkGone, ".wh"}, {".wh..wha", api.MarkGone, ".wha"}, {".wh..WH.a", api.MarkGone, ".WH.a"}, {".wh...wh.", api.MarkGone, "..wh."}, {".wh.a.wh.b", api.MarkGone, "a.wh.b"}, {".wh..opq", api.MarkGone, ".opq"}, {".wh.opq", api.MarkGone, "opq"}, {".wh. ", api.MarkGone, " "}, {".wh.\x00", api.MarkGone, "\x00"}, {".wh.\xff", api.MarkGone, "\xff"}, {".wh./", api.MarkGone, "/"}, {".wh.a/b", api.MarkGone, "a/b"}, {".wh../", api.MarkGone, "./"}, {".wh." + strings.Repeat("x", 100), api.MarkGone, strings.Repeat("x", 100)},
		{".wh..wh..opq", api.MarkOpaque, ""},
		{".wh.", api.MarkBad, ""}, {".wh..", api.MarkBad, ""}, {".wh...", api.MarkBad, ""}, {".wh..wh.", api.MarkBad, ""}, {".wh..wh..", api.MarkBad, ""}, {".wh..wh.a", api.MarkBad, ""}, {".wh..wh.opq", api.MarkBad, ""}, {".wh..wh..op", api.MarkBad, ""}, {".wh..wh..opqx", api.MarkBad, ""}, {".wh..wh..opq.", api.MarkBad, ""}, {".wh..wh..opq/", api.MarkBad, ""}, {".wh..wh..OPQ", api.MarkBad, ""}, {".wh..wh...opq", api.MarkBad, ""}, {".wh..wh..wh.", api.MarkBad, ""}, {".wh..wh..wh..opq", api.MarkBad, ""}, {".wh..wh.\x00", api.MarkBad, ""}, {".wh..wh." + strings.Repeat("x", 100), api.MarkBad, ""},
	} {
		wantMark(t, x.name, x.kind, x.text)
	}
}

func wantMark(t *testing.T, name string, kind int, text string) {
	t.Helper()
	if k, s := paths.Mark(name); k != kind || s != text {
		t.Errorf("Mark(%q) = %d, %q; want %d, %q", name, k, s, kind, text)
	}
}

// Each byte behind the beginning of a mark, and in place of each byte of it.
func TestPa3Bytes(t *testing.T) {
	for b := range 256 {
		s := string([]byte{byte(b)})
		if b == '.' {
			continue
		}
		wantMark(t, ".wh."+s, api.MarkGone, s)
		wantMark(t, ".wh.."+s, api.MarkGone, "."+s)
		wantMark(t, ".wh.."+s+".", api.MarkGone, "."+s+".")
		wantMark(t, ".wh..."+s, api.MarkGone, ".."+s)
		wantMark(t, ".wh"+s, api.MarkNone, ".wh"+s)
		wantMark(t, ".wh..wh."+s, api.MarkBad, "")
		wantMark(t, ".wh..wh..opq"+s, api.MarkBad, "")
		wantMark(t, s+".wh.a", api.MarkNone, s+".wh.a")
	}
}

// All texts of few pieces of marks, in the words of the document.
func TestPa3Words(t *testing.T) {
	for _, s := range words(5, ".wh.", ".", ".opq", "wh", "a", "/") {
		switch {
		case s == ".wh..wh..opq":
			wantMark(t, s, api.MarkOpaque, "")
		case strings.HasPrefix(s, ".wh..wh."), s == ".wh.", s == ".wh..", s == ".wh...":
			wantMark(t, s, api.MarkBad, "")
		case strings.HasPrefix(s, ".wh."):
			wantMark(t, s, api.MarkGone, s[4:])
		default:
			wantMark(t, s, api.MarkNone, s)
		}
	}
}
