package inode_test

import (
	"fmt"
	"math/rand"
	"strings"
	"testing"

	"cooperage/api"
)

func TestIn3Read(t *testing.T) {
	x := table(t, 1000)
	f, empty := made(t, x, 1, "f", false), made(t, x, 1, "e", false)
	const data = "01\x0034\xff6"
	want(t, "write", x.Write(f, 0, data), api.OK)
	for at := range 10 {
		for n := range 10 {
			asked := ""
			for k := at; k < at+n && k < len(data); k++ {
				asked += data[k : k+1]
			}
			if s, e := x.Read(f, at, n); s != asked || e != api.OK {
				t.Errorf("Read(%d, %d): %q %d", at, n, s, e)
			}
			if s, e := x.Read(empty, at, n); s != "" || e != api.OK {
				t.Errorf("Read(%d, %d) of nothing: %q %d", at, n, s, e)
			}
		}
	}
	for _, c := range []struct {
		id, at, n int
		s         string
		e         api.Errno
	}{
		{f, 0, api.MaxInt, data, api.OK}, {f, 3, api.MaxInt, data[3:], api.OK}, {f, api.MaxInt, api.MaxInt, "", api.OK}, {f, api.MaxInt, 0, "", api.OK}, {f, api.MaxFile + 1, 1, "", api.OK},
		{f, -1, 1, "", api.ErrArg}, {f, 0, -1, "", api.ErrArg}, {f, -1, -1, "", api.ErrArg}, {f, -api.MaxInt - 1, api.MaxInt, "", api.ErrArg}, {f, api.MaxInt, -api.MaxInt - 1, "", api.ErrArg}, {f, 9, -1, "", api.ErrArg}, {f, -1, 0, "", api.ErrArg},
		{1, 0, 1, "", api.ErrKind}, {1, -1, -1, "", api.ErrKind}, {9, 0, 1, "", api.ErrNone}, {0, -1, -1, "", api.ErrNone}, {-1, 0, 0, "", api.ErrNone},
	} {
		if s, e := x.Read(c.id, c.at, c.n); s != c.s || e != c.e {
			t.Errorf("Read(%d, %d, %d): %q %d", c.id, c.at, c.n, s, e)
		}
	}
}

// TestIn3WriteAndTruncate holds all short writes and truncations against bytes that are set one by one.
func TestIn3WriteAndTruncate(t *testing.T) {
	for have := range 6 {
		for at := range 9 {
			for n := range 5 {
				x := table(t, 1000)
				f := made(t, x, 1, "f", false)
				want(t, "write", x.Write(f, 0, "abcdef"[:have]), api.OK)
				asked := []byte("abcdef"[:have])
				for k := range n {
					for len(asked) <= at+k {
						asked = append(asked, 0)
					}
					asked[at+k] = "UVWXYZ"[k]
				}
				what := fmt.Sprintf("%d bytes, Write(%d, %d bytes)", have, at, n)
				want(t, what, x.Write(f, at, "UVWXYZ"[:n]), api.OK)
				if s, _ := x.Read(f, 0, 100); s != string(asked) || x.Used() != 128+len(asked) {
					t.Errorf("%s: %q, used %d", what, s, x.Used())
				}
				for len(asked) < at {
					asked = append(asked, 0)
				}
				want(t, what, x.Truncate(f, at), api.OK)
				if s, _ := x.Read(f, 0, 100); s != string(asked[:at]) || x.Used() != 128+at {
					t.Errorf("%s, Truncate(%d): %q, used %d", what, at, s, x.Used())
				}
			}
		}
	}
}

// TestIn3CutBytesAreGone: what was cut off does not come back when the file grows again.
func TestIn3CutBytesAreGone(t *testing.T) {
	x := table(t, 1000)
	f := made(t, x, 1, "f", false)
	want(t, "write", x.Write(f, 0, "secret"), api.OK)
	want(t, "truncate", x.Truncate(f, 2), api.OK)
	want(t, "truncate", x.Truncate(f, 4), api.OK)
	want(t, "write", x.Write(f, 5, "x"), api.OK)
	if s, _ := x.Read(f, 0, 9); s != "se\x00\x00\x00x" {
		t.Errorf("%q", s)
	}
}

func TestIn3WriteErrors(t *testing.T) {
	x := table(t, 64*3+10)
	f, g := made(t, x, 1, "f", false), made(t, x, 1, "g", false)
	want(t, "write", x.Write(f, 0, "0123456789"), api.OK)
	great := strings.Repeat("x", api.MaxFile)
	write := func(id, at int, s string) func() api.Errno {
		return func() api.Errno { return x.Write(id, at, s) }
	}
	cut := func(id, n int) func() api.Errno {
		return func() api.Errno { return x.Truncate(id, n) }
	}
	refused(t, x, []refusal{
		{"write nowhere", api.ErrNone, write(9, -1, "x")}, {"write nowhere", api.ErrNone, write(0, 0, "")}, {"write nowhere", api.ErrNone, write(-1, api.MaxInt, "x")},
		{"write a directory", api.ErrKind, write(1, -1, "x")}, {"write a directory", api.ErrKind, write(1, 0, "")}, {"write a directory", api.ErrKind, write(1, api.MaxInt, "x")},
		{"write ahead", api.ErrArg, write(f, -1, "x")}, {"write ahead", api.ErrArg, write(f, -1, "")}, {"write ahead", api.ErrArg, write(f, -api.MaxInt-1, great+"x")},
		{"write too far", api.ErrFull, write(f, api.MaxFile, "x")}, {"write too far", api.ErrFull, write(f, api.MaxInt, "x")}, {"write too far", api.ErrFull, write(f, api.MaxInt, "")}, {"write too far", api.ErrFull, write(f, api.MaxFile+1, "")}, {"write too much", api.ErrFull, write(f, 0, great+"x")}, {"write too much", api.ErrFull, write(f, 1, great)}, {"write too much", api.ErrFull, write(f, api.MaxInt, great+great)},
		{"no space", api.ErrSpace, write(f, 10, "x")}, {"no space", api.ErrSpace, write(f, 9, "xx")}, {"no space", api.ErrSpace, write(g, 0, "x")}, {"no space", api.ErrSpace, write(g, api.MaxFile-1, "x")}, {"no space", api.ErrSpace, write(g, 0, great)},
		{"empty", api.OK, write(f, 0, "")}, {"empty", api.OK, write(f, 11, "")}, {"empty", api.OK, write(g, api.MaxFile, "")},
		{"cut nowhere", api.ErrNone, cut(9, -1)}, {"cut nowhere", api.ErrNone, cut(0, api.MaxInt)},
		{"cut a directory", api.ErrKind, cut(1, -1)}, {"cut a directory", api.ErrKind, cut(1, api.MaxInt)},
		{"cut ahead", api.ErrArg, cut(f, -1)}, {"cut ahead", api.ErrArg, cut(f, -api.MaxInt-1)},
		{"cut too far", api.ErrFull, cut(f, api.MaxFile+1)}, {"cut too far", api.ErrFull, cut(f, api.MaxInt)},
		{"cut without space", api.ErrSpace, cut(f, 11)}, {"cut without space", api.ErrSpace, cut(g, 1)}, {"cut without space", api.ErrSpace, cut(g, api.MaxFile)},
		{"cut nothing", api.OK, cut(f, 10)}, {"cut nothing", api.OK, cut(g, 0)},
	})
	want(t, "within it", x.Write(f, 9, "z"), api.OK) // no more space is needed
	want(t, "all of it", x.Write(f, 0, "abcdefghij"), api.OK)
	want(t, "cut", x.Truncate(f, 7), api.OK)
	want(t, "the space of what was cut", x.Write(g, 2, "x"), api.OK)
	want(t, "and no more", x.Write(g, 3, "x"), api.ErrSpace)
	if x.Used() != 64*3+10 {
		t.Error(x.Used())
	}
}

func TestIn3GreatFiles(t *testing.T) {
	x := table(t, 64*3+api.MaxFile+api.MaxFile-1)
	f, g := made(t, x, 1, "f", false), made(t, x, 1, "g", false)
	great := strings.Repeat("0123456789abcdef", api.MaxFile/16)
	want(t, "write", x.Write(f, 0, great), api.OK)
	want(t, "more", x.Write(f, api.MaxFile, "x"), api.ErrFull)
	want(t, "last", x.Write(f, api.MaxFile-1, "x"), api.OK)
	if s, e := x.Read(f, 0, api.MaxInt); s != great[:api.MaxFile-1]+"x" || e != api.OK {
		t.Error(len(s), e)
	}
	want(t, "all but one byte of the space", x.Truncate(g, api.MaxFile), api.ErrSpace)
	want(t, "just the space", x.Write(g, api.MaxFile-2, "y"), api.OK)
	want(t, "one more", x.Write(g, api.MaxFile-1, "y"), api.ErrSpace)
	if s, e := x.Read(g, 0, api.MaxInt); s != strings.Repeat("\x00", api.MaxFile-2)+"y" || e != api.OK {
		t.Error(len(s), e)
	}
	want(t, "unlink", x.Unlink(1, "f"), api.OK)
	if x.Used() != 64*2+api.MaxFile-1 {
		t.Error(x.Used())
	}
	want(t, "truncate", x.Truncate(g, api.MaxFile), api.OK)
	want(t, "truncate", x.Truncate(g, api.MaxFile+1), api.ErrFull)
	if s, e := x.Read(g, api.MaxFile-3, api.MaxInt); s != "\x00y\x00" || e != api.OK {
		t.Errorf("%q %d", s, e)
	}
}

func TestIn3HoldAndDrop(t *testing.T) {
	x := table(t, 1000)
	f, d := made(t, x, 1, "f", false), made(t, x, 1, "d", true)
	refused(t, x, []refusal{
		{"hold nothing", api.ErrNone, func() api.Errno { return x.Hold(9) }}, {"hold nothing", api.ErrNone, func() api.Errno { return x.Hold(0) }},
		{"hold a directory", api.ErrKind, func() api.Errno { return x.Hold(1) }}, {"hold a directory", api.ErrKind, func() api.Errno { return x.Hold(d) }},
		{"drop nothing", api.ErrNone, func() api.Errno { return x.Drop(9) }}, {"drop nothing", api.ErrNone, func() api.Errno { return x.Drop(-1) }},
		{"drop what is not held", api.ErrArg, func() api.Errno { return x.Drop(f) }},
		{"drop a directory", api.ErrArg, func() api.Errno { return x.Drop(1) }}, {"drop a directory", api.ErrArg, func() api.Errno { return x.Drop(d) }},
	})
	for k := range 3 {
		want(t, "hold", x.Hold(f), api.OK)
		if n, _ := node(x, f); n.Holds != k+1 || n.Links != 1 || x.Used() != 64*3 {
			t.Error(n)
		}
	}
	want(t, "drop", x.Drop(f), api.OK)
	want(t, "unlink", x.Unlink(1, "f"), api.OK)
	want(t, "write", x.Write(f, 0, "abc"), api.OK)
	want(t, "truncate", x.Truncate(f, 4), api.OK)
	want(t, "drop", x.Drop(f), api.OK)
	if s, e := x.Read(f, 0, 9); s != "abc\x00" || e != api.OK || x.Used() != 64*3+4 {
		t.Error(s, e)
	}
	want(t, "drop", x.Drop(f), api.OK)
	want(t, "drop", x.Drop(f), api.ErrNone)
	want(t, "hold", x.Hold(f), api.ErrNone)
	if x.Used() != 64*2 {
		t.Error(x.Used())
	}
}

func TestIn3MostHolds(t *testing.T) {
	x := table(t, 1000)
	f, g := made(t, x, 1, "f", false), made(t, x, 1, "g", false)
	for k := range 1 << 20 {
		if e := x.Hold(f); e != api.OK {
			t.Fatal(k, e)
		}
	}
	for range 2 {
		want(t, "one more", x.Hold(f), api.ErrFull)
		want(t, "another file", x.Hold(g), api.OK)
		want(t, "drop", x.Drop(f), api.OK)
		want(t, "hold", x.Hold(f), api.OK)
	}
	want(t, "unlink", x.Unlink(1, "f"), api.OK)
	for k := range 1 << 20 {
		if e := x.Drop(f); e != api.OK {
			t.Fatal(k, e)
		}
	}
	want(t, "drop", x.Drop(f), api.ErrNone)
}

// TestIn3RandomBytes holds random writes, truncations and reads of one file against a list of bytes.
func TestIn3RandomBytes(t *testing.T) {
	r := rand.New(rand.NewSource(8))
	x := table(t, 128+500)
	f := made(t, x, 1, "f", false)
	var have []byte
	for range 20000 {
		at, n := r.Intn(600), r.Intn(40)
		switch r.Intn(3) {
		case 0:
			b := make([]byte, n)
			r.Read(b)
			e := x.Write(f, at, string(b))
			if n > 0 && at+n > 500 {
				want(t, "write", e, api.ErrSpace)
				continue
			}
			want(t, "write", e, api.OK)
			for n > 0 && len(have) < at+n {
				have = append(have, 0)
			}
			for k, c := range b {
				have[at+k] = c
			}
		case 1:
			e := x.Truncate(f, at)
			if at > 500 {
				want(t, "truncate", e, api.ErrSpace)
				continue
			}
			want(t, "truncate", e, api.OK)
			for len(have) < at {
				have = append(have, 0)
			}
			have = have[:at]
		default:
			s, e := x.Read(f, at, n)
			if s != string(have[min(at, len(have)):min(at+n, len(have))]) || e != api.OK {
				t.Fatalf("Read(%d, %d): %q %d", at, n, s, e)
			}
		}
		if x.Used() != 128+len(have) {
			t.Fatal(x.Used(), len(have))
		}
	}
}
