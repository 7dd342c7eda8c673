package json_test

import (
	"math/rand"
	"strings"
	"testing"

	"cooperage/api"
	"cooperage/json"
)

func TestJs2Print(t *testing.T) {
	prints(t, null(), "null")
	prints(t, falsehood(), "false")
	prints(t, truth(), "true")
	for _, s := range numbers {
		prints(t, number(s), s)
		prints(t, list(number(s), number(s)), "["+s+","+s+"]")
	}
	prints(t, text(""), `""`)
	prints(t, text("a\n\"\\/\x00\x7f\u00e9\U0001f600"), `"a\n\"\\/\u0000\u007f`+"\u00e9\U0001f600"+`"`)
	prints(t, list(), "[]")
	prints(t, list(null()), "[null]")
	prints(t, list(null(), falsehood(), truth(), number("1"), text("1"), list(), object()), `[null,false,true,1,"1",[],{}]`)
	prints(t, list(list(list()), list()), "[[[]],[]]")
	prints(t, object(), "{}")
	prints(t, object(field("a", null())), `{"a":null}`)
	prints(t, object(field("\n\"", null())), `{"\n\"":null}`)
	prints(t, object(field("b", number("1")), field("a", list())), `{"a":[],"b":1}`)
	prints(t, api.Value{Kind: api.JList, List: []api.Value{}, Fields: []api.Field{}}, "[]")
	prints(t, api.Value{Kind: api.JObject, List: []api.Value{}, Fields: []api.Field{}}, "{}")
	prints(t, api.Value{Kind: api.JTrue, List: []api.Value{}, Fields: []api.Field{}}, "true")
}

// Fields stand in the order of their names' bytes, not of the quoted ones, nor of letters.
func TestJs2FieldOrder(t *testing.T) {
	names := []string{"", "\x00", "\t", "\n", " ", "!", `"`, "#", "-", "/", "0", "00", "1", "10", "2", "A", "Z", "[", `\`, "_", "a", "a\x00", "a b", "aa", "ab", "b", "\x7f", "\u0080", "\u00e9", "\u07ff", "\u0800", "\ue000", "\ufffd", "\uffff", "\U00010000", "\U0010ffff"}
	r := rand.New(rand.NewSource(53))
	for range 300 {
		var fields []api.Field
		for _, i := range r.Perm(len(names)) {
			fields = append(fields, field(names[i], number("0")))
		}
		s, e := json.Print(object(fields...))
		if e != api.OK || s != canonical(object(fields...)) {
			t.Fatalf("Print: %q, %d", s, e)
		}
		v, _ := json.Parse(s)
		for i, f := range v.Fields {
			if f.Name != names[i] {
				t.Errorf("field %d of %q: %q, want %q", i, s, f.Name, names[i])
			}
		}
	}
	inner := object(field("z", null()), field("y", object(field("b", null()), field("a", null()))))
	prints(t, list(inner, inner), `[{"y":{"a":null,"b":null},"z":null},{"y":{"a":null,"b":null},"z":null}]`)
	prints(t, object(field("b", inner), field("a", inner)), `{"a":{"y":{"a":null,"b":null},"z":null},"b":{"y":{"a":null,"b":null},"z":null}}`)
}

// notValid are values that may not be, for a single reason each.
func notValid() map[string]api.Value {
	some, one := []api.Value{null()}, []api.Field{field("a", null())}
	values := map[string]api.Value{
		"no kind":                       {},
		"no kind, but a list":           {List: some},
		"no kind, but a text":           {Text: "1"},
		"kind -1":                       {Kind: -1},
		"kind 8":                        {Kind: 8},
		"the least kind":                {Kind: -api.MaxInt - 1},
		"the greatest kind":             {Kind: api.MaxInt},
		"no number":                     number(""),
		"names twice":                   object(field("a", null()), field("a", null())),
		"names twice, other values":     object(field("a", null()), field("b", null()), field("a", truth())),
		"names twice, none":             object(field("", null()), field("", null())),
		"a list with what may not be":   list(null(), api.Value{}),
		"an object with what may not":   object(field("a", null()), field("b", api.Value{})),
		"a text with a list":            {Kind: api.JText, Text: "a", List: some},
		"a text with fields":            {Kind: api.JText, Text: "a", Fields: one},
		"a number with a list":          {Kind: api.JNumber, Text: "1", List: some},
		"a number with fields":          {Kind: api.JNumber, Text: "1", Fields: one},
		"a list with a text":            {Kind: api.JList, Text: "a", List: some},
		"an empty list with a text":     {Kind: api.JList, Text: "a"},
		"a list with fields":            {Kind: api.JList, List: some, Fields: one},
		"an empty list with fields":     {Kind: api.JList, Fields: one},
		"an object with a text":         {Kind: api.JObject, Text: "a", Fields: one},
		"an empty object with a text":   {Kind: api.JObject, Text: "a"},
		"an object with a list":         {Kind: api.JObject, List: some, Fields: one},
		"an empty object with a list":   {Kind: api.JObject, List: some},
		"a deep list":                   nested(api.MaxDepth, null()),
		"a deep object":                 nestedObjects(api.MaxDepth, null()),
		"a deep empty list":             nested(api.MaxDepth, list()),
		"a list of lists and deep ones": list(list(), nested(api.MaxDepth-1, list()), null()),
		"a list in itself":              selfList(3, 1),
		"an object in itself":           selfObject("a"),
		"what is in itself, in a list":  list(selfList(1, 0), null()),
	}
	for _, kind := range []int{api.JNull, api.JFalse, api.JTrue} {
		word := []string{"", "null", "false", "true"}[kind]
		values[word+" with a text"] = api.Value{Kind: kind, Text: "a"}
		values[word+" with itself"] = api.Value{Kind: kind, Text: word}
		values[word+" with a list"] = api.Value{Kind: kind, List: some}
		values[word+" with fields"] = api.Value{Kind: kind, Fields: one}
	}
	for _, s := range []string{"\xff", "a\x80", "\xed\xa0\x80", "\xc0\x80", "\xf4\x90\x80\x80", "\xe2\x82"} {
		values["text "+s] = text(s)
		values["name "+s] = object(field("a", null()), field(s, null()))
	}
	return values
}

func TestJs2NotValid(t *testing.T) {
	for what, v := range notValid() {
		refuseValue(t, what, v)
		refuseValue(t, what+", in a list", list(null(), v))
		refuseValue(t, what+", in an object", object(field("b", null()), field("a", v)))
		refuseValue(t, what+", deep", nestedObjects(api.MaxDepth-5, nested(2, list(v, null()))))
	}
}

func TestJs2Numbers(t *testing.T) {
	forEachShort("-+.eE01 ", 5, func(s string) {
		want := api.ErrArg
		if numberForm.MatchString(s) {
			want = api.OK
		}
		if e := json.Check(number(s)); e != want {
			t.Fatalf("Check of number %q: %d", s, e)
		}
	})
	for _, s := range []string{"1 ", " 1", "1\n", "1,1", "1]", "\"1\"", "null", "1\x00", "\u0661", "0x1", "1_0", "NaN"} {
		refuseValue(t, s, number(s))
	}
}

func TestJs2Deep(t *testing.T) {
	for depth := 2; depth <= 2*api.MaxDepth; depth++ {
		inner := depth - 1
		for s, v := range map[string]api.Value{
			around("[", inner, "0", "]"):              nested(inner, number("0")),
			around("[", inner, "[]", "]"):             nested(inner, list()),
			around(`{"a":`, inner, "null", "}"):       nestedObjects(inner, null()),
			around(`{"a":`, inner, "{}", "}"):         nestedObjects(inner, object()),
			"[0," + around("[", inner, "", "]") + "]": list(number("0"), nested(inner-1, list())),
			"[" + around("[", inner, "", "]") + ",0]": list(nested(inner-1, list()), number("0")),
		} {
			if depth > api.MaxDepth {
				refuseValue(t, s, v)
			} else {
				prints(t, v, s)
			}
		}
	}
}

func TestJs2Long(t *testing.T) {
	const full = api.MaxText
	letters, figures := strings.Repeat("a", full-2), strings.Repeat("1", full)
	prints(t, text(letters), `"`+letters+`"`)
	refusePrint(t, "a text", text(letters+"a"))
	refusePrint(t, "a text with an escape", text(letters[1:]+"\n"))
	refusePrint(t, "a text that can't be quoted", text(strings.Repeat("a", full+1)))
	refusePrint(t, "a long text", text(strings.Repeat("a", 20*full)))
	prints(t, number(figures), figures)
	refusePrint(t, "a number", number(figures+"1"))
	prints(t, list(text(letters[2:])), `["`+letters[2:]+`"]`)
	refusePrint(t, "a list", list(text(letters[1:])))
	prints(t, object(field(letters[4:], number("1"))), `{"`+letters[4:]+`":1}`)
	refusePrint(t, "an object", object(field(letters[4:], number("12"))))
	refusePrint(t, "an object's name", object(field(letters[3:], number("1"))))
	refusePrint(t, "a name that can't be quoted", object(field(figures+"1", null())))
	refusePrint(t, "texts ahead and behind", list(null(), text(figures+"1"), text("a"), object(field("a", null()))))

	zeros := make([]api.Value, full/2-1)
	for i := range zeros {
		zeros[i] = number("0")
	}
	s := strings.Repeat("0,", len(zeros)-2)
	prints(t, list(zeros...), "["+s+"0,0]") // with room for one byte more
	zeros[len(zeros)-1] = number("10")
	prints(t, list(zeros...), "["+s+"0,10]")
	zeros[0] = number("10")
	refusePrint(t, "a list of many", list(zeros...))
	zeros[0], zeros[len(zeros)-1] = number("0"), list()
	prints(t, list(zeros...), "["+s+"0,[]]")
	zeros[len(zeros)-1] = list(number("0"))
	refusePrint(t, "a list of many, with one in it", list(zeros...))
	zeros[len(zeros)-1] = object()
	prints(t, list(zeros...), "["+s+"0,{}]")
	refusePrint(t, "a list of many, and one more", list(append(zeros, null())...))
}

// What may not be is told ahead of what is too long.
func TestJs2ErrorOrder(t *testing.T) {
	long := text(strings.Repeat("a", 2*api.MaxText))
	for what, v := range notValid() {
		refuseValue(t, what, list(long, v))
		refuseValue(t, what, object(field("a", long), field("b", v)))
	}
	refuseValue(t, "a long number", number(strings.Repeat("0", 2*api.MaxText)))
	refuseValue(t, "a long text", text(long.Text+"\xff"))
	refuseValue(t, "a long name", object(field(long.Text+"\xff", null())))
	refuseValue(t, "long names", object(field(long.Text, null()), field(long.Text, null())))
	refuseValue(t, "a deep and long one", nested(api.MaxDepth, long))
}

// Values that share their lists are not long for what they keep, but for what they tell.
func TestJs2Shared(t *testing.T) {
	prints(t, doubled(3, null()), "[[[null,null],[null,null]],[[null,null],[null,null]]]")
	refusePrint(t, "doubled lists", doubled(api.MaxDepth-1, null()))
	refuseValue(t, "doubled lists that are too deep", doubled(api.MaxDepth, null()))
	refuseValue(t, "doubled lists of what may not be", doubled(api.MaxDepth-1, api.Value{}))
	refuseValue(t, "lists that double without an end", doubled(200, null()))
}

// No argument is changed, nor is what lies behind the length of its lists read.
func TestJs2Kept(t *testing.T) {
	r := rand.New(rand.NewSource(54))
	for range 2000 {
		v := randomValue(r, 5)
		want := tell(v)
		json.Check(v)
		json.Print(v)
		json.Depth(v)
		json.Same(v, shuffled(r, v))
		json.Get(v, "a")
		if tell(v) != want {
			t.Fatalf("%s became %s", want, tell(v))
		}
	}
	l := []api.Value{null(), truth(), {Kind: 99}}
	f := []api.Field{field("b", null()), field("a", null()), field("a", api.Value{})}
	v := object(field("l", list(l[:2]...)), field("f", object(f[:2]...)))
	prints(t, v, `{"f":{"a":null,"b":null},"l":[null,true]}`)
	if l[2].Kind != 99 || f[2].Name != "a" || f[0].Name != "b" {
		t.Error("memory became other")
	}
}

func TestJs2Random(t *testing.T) {
	r := rand.New(rand.NewSource(55))
	for range 10000 {
		v := randomValue(r, 1+r.Intn(6))
		prints(t, v, canonical(v))
	}
}
