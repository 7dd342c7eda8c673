package json_test

import (
	library "encoding/json"
	"math/rand"
	"regexp"
	"strings"
	"testing"
	"unicode/utf8"

	"cooperage/api"
	"cooperage/json"
)

func TestJs1Values(t *testing.T) {
	parses(t, "null", null())
	parses(t, "false", falsehood())
	parses(t, "true", truth())
	parses(t, "0", number("0"))
	parses(t, `""`, text(""))
	parses(t, `"a\u0041\n"`, text("aA\n"))
	parses(t, `"\ud83d\ude00"`, text("\U0001f600"))
	parses(t, "[]", list())
	parses(t, "[null]", list(null()))
	parses(t, `[1,"1",true]`, list(number("1"), text("1"), truth()))
	parses(t, "[[],[[]],{}]", list(list(), list(list()), object()))
	parses(t, "{}", object())
	parses(t, `{"a":null}`, object(field("a", null())))
	parses(t, `{"":false}`, object(field("", falsehood())))
	parses(t, `{"a":{"a":{}},"b":[{"a":1}]}`, object(field("a", object(field("a", object()))), field("b", list(object(field("a", number("1")))))))
	parses(t, `{ "b" : 1, "a" : [] }`, object(field("b", number("1")), field("a", list())))
}

// Fields stand as they stood, whatever their order is.
func TestJs1FieldOrder(t *testing.T) {
	parses(t, `{"c":1,"a":2,"b":3}`, object(field("c", number("1")), field("a", number("2")), field("b", number("3"))))
	parses(t, `{"b":1,"\u0061":2,"A":3,"":4}`, object(field("b", number("1")), field("a", number("2")), field("A", number("3")), field("", number("4"))))
	v, e := json.Parse(`{"b":1,"a":2}`)
	if e != api.OK || v.Fields[0].Name != "b" || v.Fields[1].Name != "a" {
		t.Errorf("%s, %d", tell(v), e)
	}
}

var numberForm = regexp.MustCompile(`^-?(0|[1-9][0-9]*)(\.[0-9]+)?([eE][+-]?[0-9]+)?$`)

func isNumber(t *testing.T, s string, want bool) {
	t.Helper()
	for _, around := range [][2]string{{"", ""}, {" ", " "}, {"[", "]"}, {"[null,", ",1]"}, {`{"a":`, `}`}} {
		whole := around[0] + s + around[1]
		v, e := json.Parse(whole)
		if !want {
			refuseParse(t, whole, api.ErrBad)
			continue
		}
		if e != api.OK {
			t.Errorf("Parse of %q: %d", whole, e)
		}
		if around[0] == "" && !isEqual(v, number(s)) {
			t.Errorf("Parse of %q: %s", whole, tell(v))
		}
	}
}

func TestJs1Numbers(t *testing.T) {
	for _, s := range numbers {
		isNumber(t, s, true)
		isNumber(t, strings.TrimPrefix(s, "-"), true)
		isNumber(t, "-"+s, s[0] != '-')
		for _, wrong := range []string{"+" + s, "0" + s, "." + s, "e" + s, s + ".", s + "e", s + "E+", s + "e-", s + "-", s + "+", s + "x", s + "_", s + "f"} {
			isNumber(t, wrong, numberForm.MatchString(wrong))
		}
	}
	for _, s := range []string{"-", "+", ".", "e", "E", "--1", "-.5", ".5", "0.", "-0.", "1.e1", "1.-5", "0e", "0e+", "0e-", "1e1.5", "1e1e1", "1.5.5", "00", "-00", "01", "-01", "0x1", "1a", "0b1", "1_0", "1,0", "1 0", "- 1", "1 .5", "1. 5", "1 e5", "1e 5", "1e+ 5", "Infinity", "-Infinity", "NaN", "\uff11", "\u0661", "1\u0661"} {
		if s != "1,0" { // which is two of them in a list
			isNumber(t, s, false)
		}
	}
	refuseParse(t, "1,0", api.ErrBad)
	refuseParse(t, "", api.ErrBad)
	isNumber(t, strings.Repeat("9", 1000)+"."+strings.Repeat("0", 1000)+"e"+strings.Repeat("0", 1000), true)
	isNumber(t, "0.00", true)
	isNumber(t, "1e00", true)
}

// forEachShort calls f for each text of at most so many of these bytes.
func forEachShort(letters string, size int, f func(s string)) {
	shorter := []string{""}
	for range size {
		var longer []string
		for _, s := range shorter {
			for i := range len(letters) {
				longer = append(longer, s+letters[i:i+1])
				f(s + letters[i:i+1])
			}
		}
		shorter = longer
	}
}

func TestJs1NumbersAllShort(t *testing.T) {
	forEachShort("-+.eE017", 6, func(s string) {
		v, e := json.Parse(s)
		if numberForm.MatchString(s) != (e == api.OK) || e == api.OK && !isEqual(v, number(s)) || e != api.OK && (e != api.ErrBad || !isZero(v)) {
			t.Fatalf("Parse of %q: %s, %d", s, tell(v), e)
		}
	})
}

func TestJs1Words(t *testing.T) {
	for word, v := range map[string]api.Value{"null": null(), "false": falsehood(), "true": truth()} {
		parses(t, word, v)
		parses(t, "["+word+","+word+"]", list(v, v))
		parses(t, `{"`+word+`":`+word+"}", object(field(word, v)))
		for i := range len(word) {
			refuseParse(t, word[:i], api.ErrBad)
			refuseParse(t, word[i+1:], api.ErrBad)
			refuseParse(t, word[:i]+word[i+1:], api.ErrBad)
			refuseParse(t, word[:i]+" "+word[i:]+"x", api.ErrBad)
			refuseParse(t, word[:i]+strings.ToUpper(word[i:]), api.ErrBad)
			refuseParse(t, "["+word[:i]+strings.ToUpper(word[i:i+1])+word[i+1:]+"]", api.ErrBad)
		}
		for _, behind := range []string{word[3:], word, "0", "-", "a", "_", "(", `""`, "\x00", "\u00e9", ".", "e", "[]", "{}"} {
			refuseParse(t, word+behind, api.ErrBad)
			refuseParse(t, "["+word+behind+"]", api.ErrBad)
			refuseParse(t, "["+word+" "+behind+"]", api.ErrBad)
		}
		refuseParse(t, "{"+word+":1}", api.ErrBad)
	}
	for _, s := range []string{"undefined", "nil", "None", "yes", "on", "nan", "void"} {
		refuseParse(t, s, api.ErrBad)
	}
}

// tokens are those of a text, of every sort.
var tokens = []string{"{", `"k"`, ":", "[", "1", ",", "-2.50", ",", `"a"`, ",", "null", ",", "{", "}", ",", "[", "]", "]", ",", `"b"`, ":", "true", ",", `"a"`, ":", "false", "}"}

func tokensValue() api.Value {
	return object(field("k", list(number("1"), number("-2.50"), text("a"), null(), object(), list())), field("b", truth()), field("a", falsehood()))
}

func TestJs1Blanks(t *testing.T) {
	parses(t, strings.Join(tokens, ""), tokensValue())
	for _, blank := range []string{" ", "\t", "\n", "\r", "  ", " \t\n\r", "\r\n"} {
		parses(t, blank+strings.Join(tokens, blank)+blank, tokensValue())
		for i := range len(tokens) + 1 {
			parses(t, strings.Join(tokens[:i], "")+blank+strings.Join(tokens[i:], ""), tokensValue())
		}
		for s, v := range map[string]api.Value{"null": null(), "true": truth(), "0": number("0"), `"a"`: text("a"), "[]": list(), "{}": object()} {
			parses(t, blank+s, v)
			parses(t, s+blank, v)
			parses(t, blank+s+blank, v)
		}
		refuseParse(t, blank, api.ErrBad)
		refuseParse(t, "["+blank, api.ErrBad)
		refuseParse(t, "[1"+blank+"2]", api.ErrBad)
		refuseParse(t, "1"+blank+"1", api.ErrBad)
		refuseParse(t, "nu"+blank+"ll", api.ErrBad)
		refuseParse(t, "-"+blank+"1", api.ErrBad)
	}
	refuseParse(t, "", api.ErrBad)
}

func TestJs1OtherBlanks(t *testing.T) {
	others := []string{"\u0085", "\u00a0", "\u2003", "\u2028", "\u2029", "\u3000", "\ufeff", "\u200b", "//\n", "/**/", "#\n", ";"}
	for c := range 256 {
		if strings.IndexByte(" \t\n\r", byte(c)) < 0 && strings.IndexByte("0123456789+-.eE", byte(c)) < 0 {
			others = append(others, string([]byte{byte(c)}))
		}
	}
	for _, other := range others {
		for i := range len(tokens) + 1 {
			s := strings.Join(tokens[:i], "") + other + strings.Join(tokens[i:], "")
			refuseParse(t, s, api.ErrBad)
		}
		refuseParse(t, other, api.ErrBad)
		refuseParse(t, other+"null", api.ErrBad)
		refuseParse(t, "null"+other, api.ErrBad)
		refuseParse(t, "null "+other, api.ErrBad)
	}
}

// Within quotes a blank is a letter, if it may stand there.
func TestJs1BlanksInQuotes(t *testing.T) {
	parses(t, ` " a " `, text(" a "))
	parses(t, `{ " a " : 1 }`, object(field(" a ", number("1"))))
	for _, blank := range []string{"\t", "\n", "\r"} {
		refuseParse(t, `"`+blank+`"`, api.ErrBad)
		refuseParse(t, `{"a`+blank+`":1}`, api.ErrBad)
	}
}

func TestJs1Strings(t *testing.T) {
	for _, inner := range []string{"", "a", `\n`, `\u00e9`, "\u00e9", `\ud83d\ude00`, `\/`, `\"`, `\\`, "[", "]", "{,", ",:", "null", "\x7f"} {
		v, e := json.Parse(`"` + inner + `"`)
		if e != api.OK || v.Kind != api.JText {
			t.Errorf("Parse of %q: %s, %d", inner, tell(v), e)
			continue
		}
		parses(t, `["`+inner+`","`+inner+`"]`, list(v, v))
		parses(t, `{"`+inner+`":"`+inner+`"}`, object(field(v.Text, v)))
	}
	for _, s := range []string{`"`, `"a`, `a"`, `'a'`, `"\x"`, `"\u00"`, `"\ud83d"`, `"\ude00"`, `"\ude00\ud83d"`, "\"\x00\"", "\"\x1f\"", "\"\xff\"", "\"\xed\xa0\x80\"", "\"\xc0\x80\"", `"\"`, `""""`, `"a""b"`, `"a" "b"`} {
		refuseParse(t, s, api.ErrBad)
		refuseParse(t, "["+s+"]", api.ErrBad)
		refuseParse(t, `{`+s+`:1}`, api.ErrBad)
		refuseParse(t, `{"a":`+s+`}`, api.ErrBad)
	}
}

func TestJs1Lists(t *testing.T) {
	for _, s := range []string{"[", "]", "[[", "]]", "[]]", "[[]", "[1", "[1,", "1]", "[,]", "[,1]", "[1,]", "[1,,1]", "[,,]", "[1 1]", "[1;1]", "[1:1]", `["a":1]`, "[}", "{]", "[1}", "[[1}]", "[{]}", "[]1", "1[]", "[][]", "[],[]", "[],", ",[]", "(1)", "[1,2,3,]", "[[],]", "[{},]", "[,[]]"} {
		refuseParse(t, s, api.ErrBad)
	}
	var many []api.Value
	for range 5000 {
		many = append(many, null())
	}
	s := strings.Repeat("null,", len(many))
	parses(t, "["+s[:len(s)-1]+"]", list(many...))
	refuseParse(t, "["+s+"]", api.ErrBad)
}

func TestJs1Objects(t *testing.T) {
	for _, s := range []string{"{", "}", "{{", "}}", "{}}", "{{}", "{{}}", "{,}", `{"a"}`, `{"a":}`, `{"a":1`, `{"a":1,`, `{"a"`, `{"a":`, `"a":1`, `"a":1}`, `{"a" 1}`, `{"a",1}`, `{"a"::1}`, `{:1}`, `{"a"=1}`, `{a:1}`, `{'a':1}`, `{1:1}`, `{null:1}`, `{[]:1}`, `{{}:1}`, `{"a":1,}`, `{,"a":1}`, `{"a":1,,"b":1}`, `{"a":1 "b":1}`, `{"a":1;"b":1}`, `{"a":1:"b":1}`, `{"a":1,"b"}`, `{"a":1,"b":}`, `{"a":1,1}`, `{"a":1]`, `{"a":[}]`, `{"a":[1}`, `{"a":{}`, `{"a":1}{}`, `{"a":1},`, `{"a":"b":1}`, `{"a":1 1}`} {
		refuseParse(t, s, api.ErrBad)
		refuseParse(t, "["+s+"]", api.ErrBad)
	}
}

// A text that stops ahead of its end is refused wherever it stops, and so is one that goes on behind it.
func TestJs1Stops(t *testing.T) {
	whole := `{"a\u0041":[null,true,"\ud83d\ude00",{"b":-1.5e+7}],"c":{},"d":[[]]}`
	for size := range len(whole) {
		refuseParse(t, whole[:size], api.ErrBad)
		refuseParse(t, " \n"+whole[:size]+" ", api.ErrBad)
	}
	for c := range 256 {
		behind := string([]byte{byte(c)})
		if strings.Contains(" \t\n\r", behind) {
			continue
		}
		refuseParse(t, whole+behind, api.ErrBad)
		refuseParse(t, whole+" "+behind, api.ErrBad)
		refuseParse(t, behind+whole, api.ErrBad)
	}
	if _, e := json.Parse(whole); e != api.OK {
		t.Errorf("Parse: %d", e)
	}
}

func TestJs1Long(t *testing.T) {
	const full = api.MaxText
	letters := strings.Repeat("a", full-2)
	parses(t, `"`+letters+`"`, text(letters))
	refuseParse(t, `"`+letters+`a"`, api.ErrFull)
	refuseParse(t, ` "`+letters+`"`, api.ErrFull)
	refuseParse(t, `"`+letters+`" `, api.ErrFull)

	figures := strings.Repeat("1", full)
	parses(t, figures, number(figures))
	refuseParse(t, figures+"1", api.ErrFull)

	blanks := strings.Repeat(" ", full-4)
	parses(t, blanks+"null", null())
	parses(t, "null"+blanks, null())
	refuseParse(t, blanks+" null", api.ErrFull)
	refuseParse(t, "null "+blanks, api.ErrFull)

	zeros := strings.Repeat("0,", full/2-2)
	if v, e := json.Parse("[" + zeros + " 0]"); e != api.OK || len(v.List) != full/2-1 {
		t.Errorf("Parse of zeros: %d, %d", len(v.List), e)
	}
	refuseParse(t, "["+zeros+"  0]", api.ErrFull)

	units := strings.Repeat(`\u0041`, full/6-1) + strings.Repeat("b", full%6+4)
	parses(t, `"`+units+`"`, text(strings.Repeat("A", full/6-1)+strings.Repeat("b", full%6+4)))
}

// around is a text between so many opening and closing ones.
func around(opening string, times int, s, closing string) string {
	return strings.Repeat(opening, times) + s + strings.Repeat(closing, times)
}

func TestJs1Deep(t *testing.T) {
	for depth := 2; depth <= 2*api.MaxDepth; depth++ {
		for _, s := range []string{
			around("[", depth, "", "]"),
			around("[", depth-1, "0", "]"),
			around("[", depth-1, "{}", "]"),
			around(`{"a":`, depth-1, "{}", "}"),
			around(`{"a":`, depth-1, `"[["`, "}"),
			around(`[1,{"b":[],"a":`, (depth-1)/2, around("[", (depth-1)%2, "null", "]"), `,"c":{}},[2]]`),
			"[" + around("[", depth-1, "", "]") + ",0,[],{}]",
			`{"a":0,"b":[],"c":` + around("[", depth-1, "", "]") + "}",
		} {
			if depth > api.MaxDepth {
				refuseParse(t, s, api.ErrFull)
				continue
			}
			if v, e := json.Parse(s); e != api.OK || json.Depth(v) != depth {
				t.Errorf("Parse of %.80q: %d, depth %d, want %d", s, e, json.Depth(v), depth)
			}
		}
	}
	refuseParse(t, around("[", api.MaxText/2, "", "]"), api.ErrFull)
	refuseParse(t, strings.Repeat("[", api.MaxText), api.ErrBad)
	refuseParse(t, strings.Repeat("]", api.MaxText), api.ErrBad)
	refuseParse(t, strings.Repeat(`{"":`, api.MaxText/4), api.ErrBad)
	refuseParse(t, around(`[{"":`, api.MaxText/8, "", "}]"), api.ErrBad)
	refuseParse(t, around(`[{"":`, api.MaxText/8, "0", "}]"), api.ErrFull)
}

func TestJs1Twice(t *testing.T) {
	for _, s := range []string{`{"a":1,"a":1}`, `{"a":1,"a":2}`, `{"":1,"":1}`, `{"a":1,"b":1,"a":1}`, `{"b":1,"a":1,"c":1,"a":1}`, `{"a":1,"\u0061":1}`, `{"\u0061":1,"a":1}`, `{"\n":1,"\u000a":1}`, `{"\u000A":1,"\u000a":1}`, `{"/":1,"\/":1}`, `{"\ud83d\ude00":1,"` + "\U0001f600" + `":1}`, `{"\u00e9":[],"` + "\u00e9" + `":{}}`, `[{"a":1,"a":1}]`, `{"x":{"a":1,"a":1}}`, `{"x":[[{"y":{"a":1,"a":1}}]],"z":1}`, `[[],{"a":1},{"a":1,"a":1}]`, `{"a":{"a":1},"a":1}`} {
		refuseParse(t, s, api.ErrTwice)
		refuseParse(t, " "+s+" ", api.ErrTwice)
	}
	for _, s := range []string{`{"a":1,"A":1}`, `{"a":1,"a ":1}`, `{"a":1,"":1}`, `{"a":{"a":{"a":1}}}`, `[{"a":1},{"a":1}]`, `{"a":1,"b":{"a":1,"b":1}}`, `{"\u0061":1,"\\u0061":1}`, `{"` + "e\u0301" + `":1,"` + "\u00e9" + `":1}`, `{"0":1,"00":1}`, `["a","a"]`, `{"a":"a","b":"a"}`} {
		if _, e := json.Parse(s); e != api.OK {
			t.Errorf("Parse of %q: %d", s, e)
		}
	}
	var many strings.Builder
	for i := range 3000 {
		many.WriteString(`"` + strings.Repeat("x", i%7) + string(rune('a'+i%26)) + string(rune(0x4e00+i)) + `":0,`)
	}
	if v, e := json.Parse("{" + many.String() + `"last":0}`); e != api.OK || len(v.Fields) != 3001 {
		t.Errorf("%d fields: %d", len(v.Fields), e)
	}
	refuseParse(t, "{"+many.String()+`"a`+"\u4e00"+`":0}`, api.ErrTwice)
}

func TestJs1ErrorOrder(t *testing.T) {
	const twice = `{"a":1,"a":1}`
	deep := func(s string) string {
		return strings.Repeat("[", api.MaxDepth) + s + strings.Repeat("]", api.MaxDepth)
	}
	long := strings.Repeat(" ", api.MaxText)
	for _, s := range []string{"", "x", "[", twice, deep(twice), deep("[]"), deep(twice) + "]", "null"} {
		refuseParse(t, s+long+" ", api.ErrFull)
		refuseParse(t, long+" "+s, api.ErrFull)
	}
	refuseParse(t, long, api.ErrBad)
	for _, s := range []string{deep(twice) + "]", deep(twice)[1:], deep("[]") + ",", deep(twice + " x"), "[" + deep("[]"), twice + "}", twice[1:], "[" + twice + ",]", `{"a":1,"a":1,}`, `{"a":1,"a":}`, `{"a":1,"a"}`, `[{"a":1,"a":1},nul]`} {
		refuseParse(t, s, api.ErrBad)
	}
	for _, s := range []string{deep(twice), deep("[]"), deep("0"), "[" + twice + "," + deep("0") + "]", `{"a":1,"a":` + deep("") + `}`, `{"a":` + deep("") + `,"a":1}`} {
		refuseParse(t, s, api.ErrFull)
	}
	refuseParse(t, around("[", api.MaxDepth-1, twice, "]"), api.ErrFull)
	refuseParse(t, around("[", api.MaxDepth-2, twice, "]"), api.ErrTwice)
}

// What is parsed has lists of its own, of which none reaches into another one.
func TestJs1NewMemory(t *testing.T) {
	const s = `[[1],[2],{"a":[3]},{"b":[4]},[],{}]`
	v, _ := json.Parse(s)
	want := tell(v)
	other, _ := json.Parse(s)
	for i := range other.List {
		other.List[i].List = append(other.List[i].List, truth())
		other.List[i].Fields = append(other.List[i].Fields, field("z", truth()))
		if len(other.List[i].List) > 1 {
			other.List[i].List[0] = falsehood()
		}
	}
	if tell(v) != want {
		t.Errorf("it became %s", tell(v))
	}
	if got := other.List[1].List; len(got) != 2 || got[1].Kind != api.JTrue {
		t.Errorf("a list became %s", tell(list(got...)))
	}
	if again, e := json.Parse(s); e != api.OK || tell(again) != want {
		t.Errorf("%s, then %s", want, tell(again))
	}
}

// libraryReads tells whether Go's library reads a text without putting up with what the chapter refuses.
func libraryReads(s string) bool {
	if !utf8.ValidString(s) || !library.Valid([]byte(s)) {
		return false
	}
	read, err := readByLibrary(strings.ReplaceAll(s, "\ufffd", "?"))
	if err != nil {
		return false
	}
	told, _ := library.Marshal(read)
	return !strings.Contains(string(told), "\ufffd") || strings.Contains(strings.ToLower(s), `\ufffd`) // a half of a letter is read as fffd
}

// readByLibrary is what Go's library reads first in a text.
func readByLibrary(s string) (any, error) {
	var read any
	d := library.NewDecoder(strings.NewReader(s))
	d.UseNumber()
	err := d.Decode(&read)
	return read, err
}

// isAsRead tells whether a value is what Go's library read.
func isAsRead(v api.Value, read any) bool {
	switch x := read.(type) {
	case nil:
		return v.Kind == api.JNull
	case bool:
		return v.Kind == api.JFalse && !x || v.Kind == api.JTrue && x
	case library.Number:
		return isEqual(v, number(string(x)))
	case string:
		return isEqual(v, text(x))
	case []any:
		if v.Kind != api.JList || v.Text != "" || len(v.Fields) != 0 || len(v.List) != len(x) {
			return false
		}
		for i := range x {
			if !isAsRead(v.List[i], x[i]) {
				return false
			}
		}
		return true
	case map[string]any:
		if v.Kind != api.JObject || v.Text != "" || len(v.List) != 0 || len(v.Fields) != len(x) {
			return false
		}
		for _, f := range v.Fields {
			inner, ok := x[f.Name]
			if !ok || !isAsRead(f.Value, inner) {
				return false
			}
		}
		return true
	}
	return false
}

// asLibrary tells whether a text is parsed as Go's library reads it.
func asLibrary(t *testing.T, s string) {
	t.Helper()
	v, e := json.Parse(s)
	if e != api.OK && !isZero(v) {
		t.Fatalf("Parse of %q: %s, %d", s, tell(v), e)
	}
	if libraryReads(s) != (e != api.ErrBad) {
		t.Fatalf("Parse of %q: %d", s, e)
	}
	if e != api.OK {
		return
	}
	if read, err := readByLibrary(s); err != nil || !isAsRead(v, read) {
		t.Fatalf("Parse of %q: %s, read as %v, %v", s, tell(v), read, err)
	}
}

func TestJs1AllShort(t *testing.T) {
	forEachShort(`[]{},:"a0 -`, 5, func(s string) { asLibrary(t, s) })
	forEachShort("[]{},:1", 7, func(s string) {
		if _, e := json.Parse(s); library.Valid([]byte(s)) != (e == api.OK) {
			t.Fatalf("Parse of %q: %d", s, e)
		}
	})
}

func TestJs1RandomPieces(t *testing.T) {
	r := rand.New(rand.NewSource(51))
	pieces := append([]string{`"a":`, `"\u0061":`, `"b":`, "null", "tru", "fals", "e", "1.5", "E+", ".", "-", "0", `"`, `\`, "\\ud83d", "\\ude00", "\xff", "\u20ac", "\v", "\n", "\r", "\t", " ", "[[", "]]", `{"a":[`, "]}"}, tokens...)
	for range 100000 {
		var s strings.Builder
		for range r.Intn(14) {
			s.WriteString(pieces[r.Intn(len(pieces))])
		}
		asLibrary(t, s.String())
	}
}

// A text with one byte changed, gone, or too many.
func TestJs1NearTexts(t *testing.T) {
	r := rand.New(rand.NewSource(52))
	bytes := "[]{},:\"\\ \n\t0123-+.eEnulltrufas\xff\x00abc/"
	for range 20000 {
		s, e := json.Print(randomValue(r, 4))
		if e != api.OK {
			t.Fatal(e)
		}
		at := r.Intn(len(s))
		c := bytes[r.Intn(len(bytes))]
		asLibrary(t, s)
		asLibrary(t, s[:at]+s[at+1:])
		asLibrary(t, s[:at]+string([]byte{c})+s[at:])
		asLibrary(t, s[:at]+string([]byte{c})+s[at+1:])
	}
}
