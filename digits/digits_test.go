package digits_test

import (
	"encoding/hex"
	"math"
	"math/rand"
	"sort"
	"strconv"
	"strings"
	"testing"

	"cooperage/digits"
)

// numbers are the edges of an int, of decimal and of octal digits, and others from a fixed seed.
func numbers() []int {
	l := []int{0, math.MinInt, math.MinInt + 1, math.MaxInt, math.MaxInt - 1}
	for n := 1; n <= math.MaxInt/10; n *= 10 {
		l = append(l, n-1, n, n+1, -n+1, -n, -n-1)
	}
	for bits := range 63 {
		l = append(l, 1<<bits-1, 1<<bits, -(1 << bits), -(1<<bits)-1)
	}
	r := rand.New(rand.NewSource(1))
	for range 2000 {
		l = append(l, int(r.Uint64())>>r.Intn(64))
	}
	sort.Ints(l)
	return l
}

// texts are byte strings: none, each byte alone, and others from a fixed seed.
func texts() []string {
	l := []string{"", "\x00\x00", "\xff\xff\xff", "0123456789abcdef", "aA", "\xe2\x82\xac"}
	for b := range 256 {
		l = append(l, string([]byte{byte(b)}))
	}
	r := rand.New(rand.NewSource(2))
	for range 500 {
		b := make([]byte, r.Intn(70))
		for i := range b {
			b[i] = byte(r.Intn(256))
		}
		l = append(l, string(b))
	}
	return l
}

func wantNum(t *testing.T, s string, n int, ok bool) {
	t.Helper()
	if got, gotOk := digits.Num(s); got != n || gotOk != ok {
		t.Errorf("Num(%q) = %d, %v; want %d, %v", s, got, gotOk, n, ok)
	}
}

func wantOctal(t *testing.T, n, count int, s string, ok bool) {
	t.Helper()
	if got, gotOk := digits.Octal(n, count); got != s || gotOk != ok {
		t.Errorf("Octal(%d, %d) = %q, %v; want %q, %v", n, count, got, gotOk, s, ok)
	}
}

func wantFromOctal(t *testing.T, s string, n int, ok bool) {
	t.Helper()
	if got, gotOk := digits.FromOctal(s); got != n || gotOk != ok {
		t.Errorf("FromOctal(%q) = %d, %v; want %d, %v", s, got, gotOk, n, ok)
	}
}

func wantUnhex(t *testing.T, s, b string, ok bool) {
	t.Helper()
	if got, gotOk := digits.Unhex(s); got != b || gotOk != ok {
		t.Errorf("Unhex(%q) = %q, %v; want %q, %v", s, got, gotOk, b, ok)
	}
}

func TestDg1Dec(t *testing.T) {
	for _, x := range []struct {
		n int
		s string
	}{
		{0, "0"}, {1, "1"}, {9, "9"}, {10, "10"}, {-1, "-1"}, {-10, "-10"}, {493, "493"}, {-9050, "-9050"},
		{math.MaxInt, "9223372036854775807"},
		{math.MinInt, "-9223372036854775808"},
	} {
		if got := digits.Dec(x.n); got != x.s {
			t.Errorf("Dec(%d) = %q; want %q", x.n, got, x.s)
		}
		wantNum(t, x.s, x.n, true)
	}
	for _, n := range numbers() {
		if got, want := digits.Dec(n), strconv.Itoa(n); got != want {
			t.Errorf("Dec = %q; want %q", got, want)
		}
	}
}

func TestDg1NumRefuses(t *testing.T) {
	for _, s := range []string{
		"", "-", "--1", "-0", "00", "01", "-01", "000", "+1", "+0", " 1", "1 ", "1\n", "\x001", "1\x00",
		"1a", "a", "0x1", "1_000", "1.0", "1e3", "1-", "-1-", "1/", "1:", "/", ":", "\u0661", "\xff",
		"9223372036854775808", "9223372036854775810", "9223372036854775817", "10000000000000000000",
		"-9223372036854775809", "-9223372036854775810", "-10000000000000000000",
		"18446744073709551615", "18446744073709551616", "18446744073709551617", "-18446744073709551617",
		"92233720368547758070", strings.Repeat("9", 100), strings.Repeat("0", 100),
	} {
		wantNum(t, s, 0, false)
	}
}

// Every string over the letters that matter: those that are a number's digits are that number's, all others nobody's.
func TestDg1NumAllShortStrings(t *testing.T) {
	var grow func(s string, left int)
	grow = func(s string, left int) {
		n, err := strconv.Atoi(s)
		if err != nil || strconv.Itoa(n) != s {
			n, err = 0, strconv.ErrSyntax
		}
		wantNum(t, s, n, err == nil)
		if left == 0 {
			return
		}
		for _, c := range "0159-+ /:a" {
			grow(s+string(c), left-1)
		}
	}
	grow("", 4)
}

func TestDg2Octal(t *testing.T) {
	for _, x := range []struct {
		n, count int
		s        string
	}{
		{493, 7, "0000755"}, {493, 3, "755"}, {0, 1, "0"}, {0, 21, strings.Repeat("0", 21)},
		{7, 1, "7"}, {8, 2, "10"}, {63, 2, "77"}, {1, 21, strings.Repeat("0", 20) + "1"},
		{1<<60 - 1, 20, strings.Repeat("7", 20)}, {1 << 60, 21, "1" + strings.Repeat("0", 20)},
		{math.MaxInt, 21, strings.Repeat("7", 21)},
	} {
		wantOctal(t, x.n, x.count, x.s, true)
		wantFromOctal(t, x.s, x.n, true)
	}
}

func TestDg2OctalRefuses(t *testing.T) {
	for _, x := range [][2]int{
		{-1, 1}, {-1, 21}, {-493, 7}, {math.MinInt, 21}, {math.MinInt, 1},
		{0, 0}, {1, 0}, {0, -1}, {0, 22}, {1, 22}, {0, math.MaxInt}, {0, math.MinInt}, {math.MaxInt, 22}, {-1, 0}, {-1, 22},
		{8, 1}, {64, 2}, {493, 2}, {1 << 21, 7}, {1 << 60, 20}, {math.MaxInt, 20}, {math.MaxInt, 1},
	} {
		wantOctal(t, x[0], x[1], "", false)
	}
}

func TestDg2OctalAllCounts(t *testing.T) {
	for _, n := range numbers() {
		for count := -1; count <= 23; count++ {
			short := strconv.FormatInt(int64(n), 8)
			if n < 0 || count < 1 || count > 21 || len(short) > count {
				wantOctal(t, n, count, "", false)
				continue
			}
			long := strings.Repeat("0", count-len(short)) + short
			wantOctal(t, n, count, long, true)
			wantFromOctal(t, long, n, true)
		}
	}
}

func TestDg2FromOctalRefuses(t *testing.T) {
	for _, s := range []string{
		"", "8", "9", "08", "78", "/", ":", "7 ", " 7", "7\x00", "\x007", "-7", "-0", "+7", "0o7", "7a", "\xff", "\u0661",
		strings.Repeat("0", 22), "0" + strings.Repeat("7", 21), "1" + strings.Repeat("0", 21), strings.Repeat("7", 22),
		strings.Repeat("0", 21) + "1", strings.Repeat("0", 20) + "8", strings.Repeat("7", 1000),
	} {
		wantFromOctal(t, s, 0, false)
	}
}

func TestDg3Hex(t *testing.T) {
	for _, x := range [][2]string{
		{"", ""}, {"\x00", "00"}, {"\x0f", "0f"}, {"\xf0", "f0"}, {"\x00\x1f\xff", "001fff"}, {"az09", "617a3039"}, {"\u20ac", "e282ac"},
	} {
		if got := digits.Hex(x[0]); got != x[1] {
			t.Errorf("Hex(%q) = %q; want %q", x[0], got, x[1])
		}
		wantUnhex(t, x[1], x[0], true)
	}
	for _, s := range texts() {
		if got, want := digits.Hex(s), hex.EncodeToString([]byte(s)); got != want {
			t.Errorf("Hex(%q) = %q; want %q", s, got, want)
		}
	}
}

func TestDg3UnhexRefuses(t *testing.T) {
	for _, s := range []string{
		"0", "000", "0g", "g0", "0F", "F0", "AB", "aB", " 0", "0 ", "0x", "-1", "+1", "00 00", "0000g0", "g00000", "00000", "\x00\x00", "\u20ac0",
	} {
		wantUnhex(t, s, "", false)
	}
}

// Every pair of bytes is either two digits of a byte, or refused.
func TestDg3UnhexAllPairs(t *testing.T) {
	const letters = "0123456789abcdef"
	for a := range 256 {
		for b := range 256 {
			s := string([]byte{byte(a), byte(b)})
			high, low := strings.IndexByte(letters, byte(a)), strings.IndexByte(letters, byte(b))
			if high < 0 || low < 0 {
				wantUnhex(t, s, "", false)
			} else {
				wantUnhex(t, s, string([]byte{byte(high<<4 | low)}), true)
			}
		}
	}
}

func TestDg4ReadAsWritten(t *testing.T) {
	for _, n := range numbers() {
		wantNum(t, digits.Dec(n), n, true)
		for count := range 23 {
			if s, ok := digits.Octal(n, count); ok {
				wantFromOctal(t, s, n, true)
			}
		}
	}
	for _, s := range texts() {
		wantUnhex(t, digits.Hex(s), s, true)
	}
}

func TestDg4DifferentHaveDifferentDigits(t *testing.T) {
	ofNumber := map[string]int{}
	for _, n := range numbers() {
		s := digits.Dec(n)
		if other, ok := ofNumber[s]; ok && other != n {
			t.Errorf("%d and %d both have the digits %q", other, n, s)
		}
		ofNumber[s] = n
	}
	ofText := map[string]string{}
	for _, b := range texts() {
		s := digits.Hex(b)
		if other, ok := ofText[s]; ok && other != b {
			t.Errorf("%q and %q both have the digits %q", other, b, s)
		}
		ofText[s] = b
	}
}

func TestDg4GreaterOctalIsGreaterString(t *testing.T) {
	l := numbers()
	for count := 1; count <= 21; count++ {
		last, at := "", -1
		for _, n := range l {
			s, ok := digits.Octal(n, count)
			if !ok {
				continue
			}
			if at >= 0 && (n > at) != (s > last) {
				t.Errorf("%d digits: %d is %q, %d is %q", count, at, last, n, s)
			}
			last, at = s, n
		}
		if at < 0 {
			t.Errorf("no number has %d digits", count)
		}
	}
}
