package quote_test

import (
	"encoding/json"
	"fmt"
	"math/rand"
	"strings"
	"testing"
	"unicode/utf16"
	"unicode/utf8"

	"cooperage/api"
	"cooperage/quote"
)

const lastLetter = 0x10ffff

// bytesOf are the bytes of a letter, as the chapter's words have them; of a number that is no letter, what these would be.
func bytesOf(n int) string {
	tail := func(shift int) byte { return byte(0x80 + n>>shift&0x3f) }
	switch {
	case n < 0x80:
		return string([]byte{byte(n)})
	case n < 0x800:
		return string([]byte{byte(0xc0 + n>>6), tail(0)})
	case n < 0x10000:
		return string([]byte{byte(0xe0 + n>>12), tail(6), tail(0)})
	}
	return string([]byte{byte(0xf0 + n>>18), tail(12), tail(6), tail(0)})
}

func isHalf(n int) bool { return n >= 0xd800 && n <= 0xdfff }

// form is the canonical form of a letter.
func form(n int) string {
	switch n {
	case '"':
		return `\"`
	case '\\':
		return `\\`
	case 8:
		return `\b`
	case 9:
		return `\t`
	case 10:
		return `\n`
	case 12:
		return `\f`
	case 13:
		return `\r`
	}
	if n < 0x20 || n == 0x7f {
		return fmt.Sprintf(`\u%04x`, n)
	}
	return bytesOf(n)
}

// forEachLetter calls f for all letters.
func forEachLetter(f func(n int)) {
	for n := range lastLetter + 1 {
		if !isHalf(n) {
			f(n)
		}
	}
}

// randomText has letters of all sizes, and often those with escapes.
func randomText(r *rand.Rand, size int) string {
	var text strings.Builder
	limits := []int{0x20, 0x80, 0x800, 0x10000, lastLetter + 1}
	for range size {
		n := r.Intn(limits[r.Intn(len(limits))])
		if r.Intn(6) == 0 {
			n = int("\"\\/\x7f"[r.Intn(4)])
		}
		if !isHalf(n) {
			text.WriteString(bytesOf(n))
		}
	}
	return text.String()
}

// brokenBytes are no sequences of bytes of letters.
var brokenBytes = []string{
	"\x80", "\xbf", "\xc0", "\xc1", "\xc2", "\xdf", "\xe0", "\xed", "\xef", "\xf0", "\xf4", "\xf5", "\xf8", "\xfc", "\xfe", "\xff",
	"\xc0\x80", "\xc0\xaf", "\xc1\xbf", "\xe0\x80\x80", "\xe0\x9f\xbf", "\xf0\x80\x80\x80", "\xf0\x8f\xbf\xbf", // more bytes than needed
	"\xf8\x88\x80\x80\x80", "\xfc\x84\x80\x80\x80\x80",
	"\xed\xa0\x80", "\xed\xaf\xbf", "\xed\xb0\x80", "\xed\xbf\xbf", "\xed\xa0\xbd\xed\xb8\x80", // d800 to dfff
	"\xf4\x90\x80\x80", "\xf5\x80\x80\x80", "\xf7\xbf\xbf\xbf", // beyond the last letter
	"\xc2a", "\xc2\xc2\x80", "\xe2\x82", "\xe2\x82a", "\xe2a\xac", "\xef\xbf", "\xef\xbf\xbe\xbd", "\xf0\x9f\x98", "\xf0\x9f\x98a", "\xf0\x9f\xc2\x80",
	"\xc2\x80\x80", "a\x80", "\u20ac\xac", "\ufffd\xff", "\xff\ufffd", "\xef\xbf\ufffd",
}

func refuseQuote(t *testing.T, s string, want api.Errno) {
	t.Helper()
	if q, e := quote.Quote(s); q != "" || e != want {
		t.Errorf("Quote of %.40q: %.40q, %d, want %d", s, q, e, want)
	}
}

func refuseUnquote(t *testing.T, s string, want api.Errno) {
	t.Helper()
	if u, n, e := quote.Unquote(s); u != "" || n != 0 || e != want {
		t.Errorf("Unquote of %.40q: %.40q, %d, %d, want %d", s, u, n, e, want)
	}
}

// unquotes asks for a text between quotes, with several texts behind it.
func unquotes(t *testing.T, quoted, want string) {
	t.Helper()
	for _, behind := range []string{"", `"`, "x", `\`, "\x00", "\xff", `,"b"`} {
		if u, n, e := quote.Unquote(quoted + behind); u != want || n != len(quoted) || e != api.OK {
			t.Errorf("Unquote of %.60q: %.40q, %d, %d, want %.40q, %d", quoted+behind, u, n, e, want, len(quoted))
		}
	}
}

func TestQt1ValidLetters(t *testing.T) {
	for _, n := range []int{0, 1, 0x1f, 0x20, 0x22, 0x5c, 0x7e, 0x7f, 0x80, 0x7ff, 0x800, 0xd7ff, 0xe000, 0xfffd, 0xfffe, 0xffff, 0x10000, lastLetter} {
		for _, s := range []string{bytesOf(n), bytesOf(n) + bytesOf(n), "a" + bytesOf(n) + "a", "\u20ac" + bytesOf(n) + "\U0001f600"} {
			if !quote.Valid(s) {
				t.Errorf("%q is not valid", s)
			}
		}
	}
	forEachLetter(func(n int) {
		if !quote.Valid(bytesOf(n)) {
			t.Errorf("letter %x is not valid", n)
		}
	})
	for _, s := range []string{"", strings.Repeat("\u20ac", api.MaxText), strings.Repeat("a", 10*api.MaxText)} {
		if !quote.Valid(s) {
			t.Errorf("%.40q of %d bytes is not valid", s, len(s))
		}
	}
}

func TestQt1ValidNot(t *testing.T) {
	for _, s := range brokenBytes {
		for _, around := range []string{"", "a", "\u00e9", "\ufffd", "\U0010ffff"} {
			for _, whole := range []string{s, around + s, s + around, around + s + around} {
				if quote.Valid(whole) {
					t.Errorf("%q is valid", whole)
				}
			}
		}
	}
	for n := 0xd800; n <= 0xdfff; n++ {
		if quote.Valid(bytesOf(n)) {
			t.Errorf("%x is a letter", n)
		}
	}
	long := strings.Repeat("a", 1000)
	for i := range len(long) {
		if quote.Valid(long[:i] + "\x80" + long[i:]) {
			t.Errorf("80 at %d is valid", i)
		}
	}
}

// Of every sequence of so few bytes it is known which letters it could have.
func TestQt1ValidAllShort(t *testing.T) {
	letters := [4]map[string]struct{}{{}, {}, {}, {}}
	forEachLetter(func(n int) {
		s := bytesOf(n)
		letters[len(s)-1][s] = struct{}{}
	})
	has := func(s string) bool {
		_, ok := letters[len(s)-1][s]
		return ok
	}
	two := func(s string) bool { return has(s) || has(s[:1]) && has(s[1:]) }
	check := func(s string, want bool) {
		if quote.Valid(s) != want {
			t.Fatalf("%q: not %v", s, want)
		}
	}
	for a := range 256 {
		check(string([]byte{byte(a)}), a < 0x80)
		for b := range 256 {
			s := string([]byte{byte(a), byte(b)})
			check(s, two(s))
		}
	}
	for a := 0xc0; a < 256; a++ {
		for b := 0x70; b < 0xd0; b++ {
			for c := 0x70; c < 0xd0; c++ {
				s := string([]byte{byte(a), byte(b), byte(c)})
				check(s, has(s) || two(s[:2]) && has(s[2:]))
			}
		}
	}
	edges := []byte{0, 0x7f, 0x80, 0x8f, 0x90, 0x9f, 0xa0, 0xbf, 0xc0, 0xff}
	for a := 0xe0; a < 256; a++ {
		for i := range 1000 {
			s := string([]byte{byte(a), edges[i%10], edges[i/10%10], edges[i/100]})
			check(s, has(s) || has(s[:3]) && has(s[3:]))
		}
	}
}

func TestQt1QuoteKnown(t *testing.T) {
	for s, want := range map[string]string{
		"":                       `""`,
		"\n":                     `"\n"`,
		"abc":                    `"abc"`,
		`"`:                      `"\""`,
		`\`:                      `"\\"`,
		"/":                      `"/"`,
		"'":                      `"'"`,
		"\b\f\n\r\t":             `"\b\f\n\r\t"`,
		"\x00\x07\x0b\x0e\x1f":   `"\u0000\u0007\u000b\u000e\u001f"`,
		" ~\x7f\u0080":           `" ~\u007f` + "\u0080\"",
		`\n`:                     `"\\n"`,
		`\u0041`:                 `"\\u0041"`,
		"<>&\u2028\u2029":        "\"<>&\u2028\u2029\"",
		"\u07ff\u0800\ufffd":     "\"\u07ff\u0800\ufffd\"",
		"\uffff\U00010000":       "\"\uffff\U00010000\"",
		"\U0010ffff":             "\"\U0010ffff\"",
		"a\x00b\"c\\d\u20ac\x7f": `"a\u0000b\"c\\d` + "\u20ac" + `\u007f"`,
	} {
		if q, e := quote.Quote(s); q != want || e != api.OK {
			t.Errorf("Quote of %q: %q, %d, want %q", s, q, e, want)
		}
	}
}

func TestQt1QuoteEachLetter(t *testing.T) {
	forEachLetter(func(n int) {
		s := bytesOf(n)
		if q, e := quote.Quote(s); q != `"`+form(n)+`"` || e != api.OK {
			t.Errorf("Quote of letter %x: %q, %d", n, q, e)
		}
	})
}

func TestQt1QuoteLong(t *testing.T) {
	full := map[string]string{
		strings.Repeat("a", api.MaxText):                  strings.Repeat("a", api.MaxText),
		strings.Repeat("\x00", api.MaxText):               strings.Repeat(`\u0000`, api.MaxText),
		strings.Repeat(`"`, api.MaxText):                  strings.Repeat(`\"`, api.MaxText),
		strings.Repeat("\u00e9", api.MaxText/2):           strings.Repeat("\u00e9", api.MaxText/2),
		strings.Repeat("\u20ac", api.MaxText/3) + "\n":    strings.Repeat("\u20ac", api.MaxText/3) + `\n`,
		strings.Repeat("\U0001f600", api.MaxText/4):       strings.Repeat("\U0001f600", api.MaxText/4),
		strings.Repeat("a", api.MaxText-3) + "\U0000ffff": strings.Repeat("a", api.MaxText-3) + "\U0000ffff",
	}
	for s, want := range full {
		if len(s) != api.MaxText {
			t.Fatalf("%.20q has %d bytes", s, len(s))
		}
		if q, e := quote.Quote(s); q != `"`+want+`"` || e != api.OK {
			t.Errorf("Quote of %.20q: %.20q of %d bytes, %d", s, q, len(q), e)
		}
		for _, more := range []string{"a", "\n", "\u00e9"} {
			refuseQuote(t, s+more, api.ErrFull)
		}
	}
	refuseQuote(t, strings.Repeat("\u20ac", api.MaxText), api.ErrFull) // as many letters as bytes may be
}

func TestQt1QuoteBroken(t *testing.T) {
	for _, s := range brokenBytes {
		refuseQuote(t, s, api.ErrBad)
		refuseQuote(t, "a\n"+s+"\u20ac", api.ErrBad)
		refuseQuote(t, strings.Repeat("a", api.MaxText)+s, api.ErrBad) // named ahead of ErrFull
		refuseQuote(t, s+strings.Repeat("a", api.MaxText), api.ErrBad)
	}
}

func TestQt2Letters(t *testing.T) {
	unquotes(t, `""`, "")
	unquotes(t, `"abc"`, "abc")
	unquotes(t, "\"\x7f\"", "\x7f")
	unquotes(t, "\"\ufffd\"", "\ufffd")
	unquotes(t, "\"a\u07ff\uffff\U0010ffffz\"", "a\u07ff\uffff\U0010ffffz")
	forEachLetter(func(n int) {
		s := `"` + bytesOf(n) + `"`
		if n < 0x20 || n == '"' || n == '\\' {
			return
		}
		if u, size, e := quote.Unquote(s); u != bytesOf(n) || size != len(s) || e != api.OK {
			t.Errorf("Unquote of letter %x: %q, %d, %d", n, u, size, e)
		}
	})
}

func TestQt2ShortEscapes(t *testing.T) {
	denoted := map[byte]string{'"': "\"", '\\': "\\", '/': "/", 'b': "\b", 'f': "\f", 'n': "\n", 'r': "\r", 't': "\t"}
	for c := range 256 {
		s := `"a\` + string([]byte{byte(c)}) + `z"`
		if want, ok := denoted[byte(c)]; ok {
			unquotes(t, s, "a"+want+"z")
		} else {
			refuseUnquote(t, s, api.ErrBad)
		}
	}
	unquotes(t, `"\"\\\/\b\f\n\r\t"`, "\"\\/\b\f\n\r\t")
	unquotes(t, `"\\n\\u0041"`, `\n\u0041`)
	unquotes(t, `"\\"`, `\`)
	refuseUnquote(t, `"\é"`, api.ErrBad)
	refuseUnquote(t, `"\`, api.ErrBad)
	refuseUnquote(t, `"\"`, api.ErrBad)
	refuseUnquote(t, `"\\\"`, api.ErrBad)
}

func TestQt2UnitEscapes(t *testing.T) {
	for n := range 0x10000 {
		mixed := []byte(fmt.Sprintf("%04x", n))
		copy(mixed[n%4:], fmt.Sprintf("%04X", n)[n%4:])
		for _, hex := range []string{fmt.Sprintf("%04x", n), fmt.Sprintf("%04X", n), string(mixed)} {
			s := `"` + `\u` + hex + `"`
			want, size, err := bytesOf(n), len(s), api.OK
			if isHalf(n) {
				want, size, err = "", 0, api.ErrBad
			}
			if u, k, e := quote.Unquote(s); u != want || k != size || e != err {
				t.Errorf("Unquote of %q: %q, %d, %d", s, u, k, e)
			}
		}
	}
	unquotes(t, `"a\u0041\u00e9\u20AC1"`, "aA\u00e9\u20ac1")
	unquotes(t, `"\u00411"`, "A1")
	unquotes(t, `"\u005cn\u0022"`, `\n"`)
	unquotes(t, `"\uFFFD\ufffd"`, "\ufffd\ufffd")
}

func TestQt2UnitWrong(t *testing.T) {
	for place := range 4 {
		for c := range 256 {
			digits := []byte("00aF")
			digits[place] = byte(c)
			s := `"\u` + string(digits) + `"`
			if strings.IndexByte("0123456789abcdefABCDEF", byte(c)) >= 0 {
				if _, n, e := quote.Unquote(s); n != len(s) || e != api.OK {
					t.Errorf("Unquote of %q: %d, %d", s, n, e)
				}
			} else {
				refuseUnquote(t, s, api.ErrBad)
			}
		}
	}
	for _, s := range []string{`\u`, `\u"`, `\u1"`, `\u12"`, `\u123"`, `\u 041"`, `\u+041"`, `\u-041"`, `\u0x41"`, `\u0_41"`, `\U0041"`, `\u{41}"`, `\x41"`, `\101"`, `\u004g"`, `\u00é"`, `\u0é0"`, `\u0` + "\u212a\"", `\u00` + "\u0130\"", `\u` + "\uff10\uff10\uff10\uff10\""} {
		refuseUnquote(t, `"`+s, api.ErrBad)
		refuseUnquote(t, `"ab`+s+`"`, api.ErrBad)
	}
}

// No letter but the digits may stand for one, even if there is another case of it that is short.
func TestQt2UnitLetters(t *testing.T) {
	forEachLetter(func(n int) {
		if n < 0x80 {
			return
		}
		for _, s := range []string{bytesOf(n), "0" + bytesOf(n), bytesOf(n) + "0", "00" + bytesOf(n), "000" + bytesOf(n)} {
			if u, k, e := quote.Unquote(`"\u` + s + `0000"`); u != "" || k != 0 || e != api.ErrBad {
				t.Errorf("digits %q: %q, %d, %d", s, u, k, e)
			}
		}
	})
}

func TestQt2Halves(t *testing.T) {
	for first := 0xd800; first <= 0xdbff; first++ {
		for second := 0xdc00; second <= 0xdfff; second++ {
			if first > 0xd802 && first < 0xdbfe && second > 0xdc02 && second < 0xdffe && (first+second)%61 != 0 {
				continue
			}
			s := fmt.Sprintf(`"\u%04x\u%04X"`, first, second)
			want := string(utf16.DecodeRune(rune(first), rune(second)))
			if u, n, e := quote.Unquote(s); u != want || n != len(s) || e != api.OK {
				t.Fatalf("Unquote of %q: %q, %d, %d", s, u, n, e)
			}
		}
	}
	unquotes(t, `"\ud800\udc00\uD83D\uDE00\udbff\uDFFF"`, "\U00010000\U0001f600\U0010ffff")
	unquotes(t, `"\ud83d\ude00\u0041x"`, "\U0001f600Ax")
	unquotes(t, `"\ud7ff\ue000"`, "\ud7ff\ue000")
}

func TestQt2HalvesWrong(t *testing.T) {
	firsts := []string{`\ud800`, `\ud83d`, `\uDBFF`}
	seconds := []string{`\udc00`, `\uDE00`, `\udfff`}
	others := []string{"", "x", `\n`, `\\`, `\"`, `\u0041`, `\ud7ff`, `\ue000`, `\uffff`, `\udc0`, `\udc0g`, `udc00`, `/udc00`, `\Udc00`, ` \udc00`, `\`, "\U0001f600", "\u00e9"}
	for _, first := range firsts {
		for _, other := range append(firsts, others...) {
			refuseUnquote(t, `"`+first+other+`"`, api.ErrBad)
			refuseUnquote(t, `"ab`+first+other+`xy"`, api.ErrBad)
		}
		for _, second := range seconds {
			refuseUnquote(t, `"`+second+first+`"`, api.ErrBad)
			refuseUnquote(t, `"`+first+first+second+`"`, api.ErrBad)
			refuseUnquote(t, `"`+first+second+second+`"`, api.ErrBad)
			refuseUnquote(t, `"`+first+second+first+`"`, api.ErrBad)
			refuseUnquote(t, `"`+first+`a`+second+`"`, api.ErrBad)
		}
	}
	for _, second := range seconds {
		for _, other := range append(seconds, others...) {
			refuseUnquote(t, `"`+second+other+`"`, api.ErrBad)
			if other != `\` { // which would be an escape of the backslash
				refuseUnquote(t, `"`+other+second+`"`, api.ErrBad)
			}
		}
	}
}

func TestQt2Wrong(t *testing.T) {
	for _, s := range []string{"", "a", `a"b"`, ` "a"`, `'a'`, `\"a"`, "\x00", "\u201ca\u201d", `"`, `"a`, `"a\"`, "\ufeff\"a\""} {
		refuseUnquote(t, s, api.ErrBad)
	}
	for c := range 0x20 {
		refuseUnquote(t, `"`+string(rune(c))+`"`, api.ErrBad)
		refuseUnquote(t, `"ab`+string(rune(c))+`cd"`, api.ErrBad)
		refuseUnquote(t, `"`+string(rune(c)), api.ErrBad)
	}
	for _, s := range brokenBytes {
		refuseUnquote(t, `"`+s+`"`, api.ErrBad)
		refuseUnquote(t, `"ab`+s+`cd"`, api.ErrBad)
		refuseUnquote(t, `"`+s, api.ErrBad)
		refuseUnquote(t, `"\u0041`+s+`\n"`, api.ErrBad)
	}
}

// A text that stops ahead of its closing quote is refused wherever it stops.
func TestQt2Stops(t *testing.T) {
	whole := `"ab\n\"\\\u0041\ud83d\ude00` + "\u00e9\u20ac\U0001f600\ufffd" + `/\/"`
	for size := range len(whole) {
		refuseUnquote(t, whole[:size], api.ErrBad)
	}
	unquotes(t, whole, "ab\n\"\\A\U0001f600\u00e9\u20ac\U0001f600\ufffd//")
}

func TestQt2Behind(t *testing.T) {
	for c := range 256 {
		if u, n, e := quote.Unquote(`"a"` + string([]byte{byte(c)})); u != "a" || n != 3 || e != api.OK {
			t.Errorf("with %x behind: %q, %d, %d", c, u, n, e)
		}
	}
	for _, s := range append(brokenBytes, `"b"`, `\ud83d`, "\n", strings.Repeat("x", 9*api.MaxText)) {
		if u, n, e := quote.Unquote(`"a\u0041"` + s); u != "aA" || n != 9 || e != api.OK {
			t.Errorf("with %.20q behind: %q, %d, %d", s, u, n, e)
		}
	}
}

func TestQt2Long(t *testing.T) {
	const full = 8 * api.MaxText
	letters := strings.Repeat("a", full-2)
	unquotes(t, `"`+letters+`"`, letters)
	refuseUnquote(t, `"`+letters+`a"`, api.ErrFull)
	refuseUnquote(t, `"`+letters+`\n"`, api.ErrFull)
	refuseUnquote(t, `"`+letters+letters+`"`, api.ErrFull)

	units := strings.Repeat(`\u0041`, full/6) // four bytes are left, two of them for quotes
	denoted := strings.Repeat("A", full/6)
	if len(units) != full-2 {
		units, denoted = units+strings.Repeat("b", full-2-len(units)), denoted+strings.Repeat("b", full-2-len(units))
	}
	unquotes(t, `"`+units+`"`, denoted)
	refuseUnquote(t, `"`+units+`b"`, api.ErrFull)

	wide := strings.Repeat("\u00e9", full/2-1)
	unquotes(t, `"`+wide+`"`, wide)
	refuseUnquote(t, `"`+wide+"\u00e9\"", api.ErrFull)
}

// What is wrong is told ahead of what is too long.
func TestQt2LongWrong(t *testing.T) {
	letters := strings.Repeat("a", 8*api.MaxText)
	for _, end := range []string{"", `\`, `\"`, "\n\"", "\xff\"", `\x"`, `\ud83d"`, `\u004"`} {
		refuseUnquote(t, `"`+letters+end, api.ErrBad)
	}
	refuseUnquote(t, letters+`"`, api.ErrBad)
}

// round tells whether a text is quoted as Go's library can read it, and unquoted as it was.
func round(t *testing.T, s, behind string) {
	t.Helper()
	q, e := quote.Quote(s)
	if e != api.OK {
		t.Fatalf("Quote of %.60q: %d", s, e)
	}
	if u, n, e := quote.Unquote(q + behind); u != s || n != len(q) || e != api.OK {
		t.Errorf("%.60q, with %.20q behind: %.60q, %d, %d", q, behind, u, n, e)
	}
	var read string
	if err := json.Unmarshal([]byte(q), &read); err != nil || read != s {
		t.Errorf("%.60q is read as %.60q, %v", q, read, err)
	}
}

func TestQt3Round(t *testing.T) {
	r := rand.New(rand.NewSource(4))
	for i := range 3000 {
		round(t, randomText(r, i%50), randomText(r, r.Intn(5)))
	}
	behind := append([]string{"", `"`, `""`, `\`, `\"`, "a", "\x00", strings.Repeat("\"", api.MaxText)}, brokenBytes...)
	for _, s := range []string{"", "a", `"`, `\`, `\\`, `\"`, "\n", "\x7f", "\u20ac", `\u0041`, `""`} {
		for _, b := range behind {
			round(t, s, b)
		}
	}
	forEachLetter(func(n int) {
		if n < 0x3000 || n%97 == 0 || n > lastLetter-9 {
			round(t, bytesOf(n), "x")
		}
	})
	for _, s := range []string{"\x01", "\"", "a", "\u0080"} {
		round(t, strings.Repeat(s, api.MaxText/len(s)), "x")
	}
}

// However a text is written, what it denotes has one canonical form.
func TestQt3OneForm(t *testing.T) {
	r := rand.New(rand.NewSource(5))
	for i := range 3000 {
		s := randomText(r, i%40)
		var written, canonical strings.Builder
		for _, letter := range s {
			written.WriteString(someForm(r, letter))
			canonical.WriteString(form(int(letter)))
		}
		quoted := `"` + written.String() + `"`
		u, n, e := quote.Unquote(quoted + "x")
		if u != s || n != len(quoted) || e != api.OK {
			t.Fatalf("Unquote of %q: %q, %d, %d", quoted, u, n, e)
		}
		if q, e := quote.Quote(u); q != `"`+canonical.String()+`"` || e != api.OK {
			t.Errorf("Quote of %q: %q, %d", u, q, e)
		}
	}
}

// someForm is one of the forms of a letter.
func someForm(r *rand.Rand, letter rune) string {
	one, two := fmt.Sprintf(`\u%04x`, letter), ""
	if letter > 0xffff {
		first, second := utf16.EncodeRune(letter)
		one = fmt.Sprintf(`\u%04X`, first)
		two = fmt.Sprintf(`\u%04x`, second)
	}
	switch r.Intn(3) {
	case 0:
		return one + two
	case 1:
		if letter == '/' {
			return `\/`
		}
	}
	return form(int(letter))
}

// Bytes of any kind are unquoted as Go's library reads them, but for what it puts up with.
func TestQt2AnyBytes(t *testing.T) {
	r := rand.New(rand.NewSource(6))
	pieces := append([]string{`"`, `\`, `\u`, "u", "0", "d8", "dC", "D83D", "de00", "41", "n", "/", "a", "\u00e9", "\ufffd", "\x7f", "\n", "\xed\xa0\x80"}, brokenBytes[:10]...)
	for range 60000 {
		s := `"`
		for range r.Intn(12) {
			s += pieces[r.Intn(len(pieces))]
		}
		s += `"`
		u, n, e := quote.Unquote(s)
		if e != api.OK {
			if u != "" || n != 0 || e != api.ErrBad {
				t.Errorf("Unquote of %q: %q, %d, %d", s, u, n, e)
			}
			if isStrict(s) {
				t.Errorf("Unquote of %q: %d", s, e)
			}
			continue
		}
		var read string
		if err := json.Unmarshal([]byte(s[:n]), &read); err != nil || read != u || !isStrict(s[:n]) {
			t.Errorf("Unquote of %q: %q, %d; read as %q, %v", s, u, n, read, err)
		}
	}
}

// isStrict tells whether Go's library reads a whole quoted text without putting letters in for what is none.
func isStrict(s string) bool {
	var read string
	if !utf8.ValidString(s) || json.Unmarshal([]byte(s), &read) != nil {
		return false
	}
	return strings.Count(read, "\ufffd") == strings.Count(s, "\ufffd")+strings.Count(strings.ToLower(s), `\ufffd`)
}

func TestSame(t *testing.T) {
	s := "a\n\u20ac\"\x00"
	first, _ := quote.Quote(s)
	for range 3 {
		quote.Quote("other\xff")
		quote.Unquote(`"\ud83d`)
		if q, e := quote.Quote(s); q != first || e != api.OK {
			t.Errorf("Quote of %q: %q, then %q, %d", s, first, q, e)
		}
	}
}
