package json_test

import (
	"fmt"
	"math/rand"
	"slices"
	"strings"
	"testing"

	"cooperage/api"
	"cooperage/json"
	"cooperage/quote"
)

// The constructors of values.

func null() api.Value                       { return api.Value{Kind: api.JNull} }
func falsehood() api.Value                  { return api.Value{Kind: api.JFalse} }
func truth() api.Value                      { return api.Value{Kind: api.JTrue} }
func number(s string) api.Value             { return api.Value{Kind: api.JNumber, Text: s} }
func text(s string) api.Value               { return api.Value{Kind: api.JText, Text: s} }
func list(l ...api.Value) api.Value         { return api.Value{Kind: api.JList, List: l} }
func object(fs ...api.Field) api.Value      { return api.Value{Kind: api.JObject, Fields: fs} }
func field(n string, v api.Value) api.Field { return api.Field{Name: n, Value: v} }

// nested is a value in so many lists.
func nested(lists int, v api.Value) api.Value {
	for range lists {
		v = list(v)
	}
	return v
}

// nestedObjects is a value in so many objects.
func nestedObjects(objects int, v api.Value) api.Value {
	for range objects {
		v = object(field("a", v))
	}
	return v
}

// doubled is a value that is twice in each of so many lists, which share their memory.
func doubled(lists int, v api.Value) api.Value {
	for range lists {
		v = list(v, v)
	}
	return v
}

// selfList is a list that is in itself, with others around it there.
func selfList(size, place int) api.Value {
	l := make([]api.Value, size)
	for i := range l {
		l[i] = null()
	}
	l[place] = api.Value{Kind: api.JList, List: l}
	return l[place]
}

// selfObject is an object that is in itself.
func selfObject(name string) api.Value {
	f := make([]api.Field, 1)
	f[0] = field(name, api.Value{Kind: api.JObject, Fields: f})
	return f[0].Value
}

// isEqual tells whether two values are the same with their fields in the same order; it is written apart from the package. Calls are as deep as the values are.
func isEqual(a, b api.Value) bool {
	return a.Kind == b.Kind && a.Text == b.Text && slices.EqualFunc(a.List, b.List, isEqual) &&
		slices.EqualFunc(a.Fields, b.Fields, func(x, y api.Field) bool { return x.Name == y.Name && isEqual(x.Value, y.Value) })
}

func isZero(v api.Value) bool { return isEqual(v, api.Value{}) }

// tell writes a value, whatever it is, in one form each, down to a depth that no value of a test has but those that can't be told.
func tell(v api.Value) string {
	var told strings.Builder
	tellDown(&told, v, 200)
	return told.String()
}

func tellDown(told *strings.Builder, v api.Value, depth int) {
	if depth == 0 {
		told.WriteString("..")
		return
	}
	fmt.Fprintf(told, "%d%q(", v.Kind, v.Text)
	for _, inner := range v.List {
		tellDown(told, inner, depth-1)
		told.WriteString(" ")
	}
	for _, f := range v.Fields {
		fmt.Fprintf(told, "%q=", f.Name)
		tellDown(told, f.Value, depth-1)
		told.WriteString(" ")
	}
	told.WriteString(")")
}

// deepCopy is a value in other memory; it is written apart from the package.
func deepCopy(v api.Value) api.Value {
	c := api.Value{Kind: v.Kind, Text: v.Text}
	for _, inner := range v.List {
		c.List = append(c.List, deepCopy(inner))
	}
	for _, f := range v.Fields {
		c.Fields = append(c.Fields, field(f.Name, deepCopy(f.Value)))
	}
	return c
}

// texts are those of which random values are made.
var texts = []string{"", "a", "b", "ab", "A", " ", "\n", "\x00", "\x1f", "\x7f", `"`, `\`, "/", "\u00e9", "\u20ac", "\ufffd", "\uffff", "\U0001f600", "0", "null", `\u0041`, "[", "}"}

// numbers are texts of numbers, no two of them the same.
var numbers = []string{"0", "-0", "1", "-1", "9", "10", "100", "123456789012345678901234567890", "0.0", "0.5", "-0.50", "1.0", "1e0", "1E0", "1e+0", "1e-0", "1E-7", "2e+09", "0e0", "0.1e-10", "9.99E+99"}

// randomValue is a valid value that is at most so deep.
func randomValue(r *rand.Rand, depth int) api.Value {
	kind := 1 + r.Intn(7)
	if depth == 1 {
		kind = 1 + r.Intn(5)
	}
	v := api.Value{Kind: kind}
	switch kind {
	case api.JNumber:
		v.Text = numbers[r.Intn(len(numbers))]
	case api.JText:
		v.Text = texts[r.Intn(len(texts))]
	case api.JList:
		for range r.Intn(4) {
			v.List = append(v.List, randomValue(r, depth-1))
		}
	case api.JObject:
		for _, i := range r.Perm(len(texts))[:r.Intn(4)] {
			v.Fields = append(v.Fields, field(texts[i], randomValue(r, depth-1)))
		}
	}
	return v
}

// anyValue is a value that need not be valid.
func anyValue(r *rand.Rand, depth int) api.Value {
	v := api.Value{Kind: r.Intn(9) - r.Intn(2), Text: append(texts, "\xff")[r.Intn(len(texts)+1)]}
	if r.Intn(2) == 0 {
		v.Text = ""
	}
	for depth > 1 && r.Intn(2) == 0 {
		v.List = append(v.List, anyValue(r, depth-1))
	}
	for depth > 1 && r.Intn(2) == 0 {
		v.Fields = append(v.Fields, field(texts[r.Intn(4)], anyValue(r, depth-1)))
	}
	return v
}

// shuffled is a value with the fields in another order, everywhere in it.
func shuffled(r *rand.Rand, v api.Value) api.Value {
	v = deepCopy(v)
	for i := range v.List {
		v.List[i] = shuffled(r, v.List[i])
	}
	for i := range v.Fields {
		v.Fields[i].Value = shuffled(r, v.Fields[i].Value)
	}
	r.Shuffle(len(v.Fields), func(i, j int) { v.Fields[i], v.Fields[j] = v.Fields[j], v.Fields[i] })
	return v
}

// canonical is the canonical form of a valid value, as the chapter's words have it.
func canonical(v api.Value) string {
	switch v.Kind {
	case api.JNull:
		return "null"
	case api.JFalse:
		return "false"
	case api.JTrue:
		return "true"
	case api.JNumber:
		return v.Text
	case api.JText:
		q, _ := quote.Quote(v.Text)
		return q
	case api.JList:
		var inner []string
		for _, l := range v.List {
			inner = append(inner, canonical(l))
		}
		return "[" + strings.Join(inner, ",") + "]"
	}
	var names []string
	values := map[string]string{}
	for _, f := range v.Fields {
		names = append(names, f.Name)
		values[f.Name] = canonical(f.Value)
	}
	slices.Sort(names)
	for i, n := range names {
		q, _ := quote.Quote(n)
		names[i] = q + ":" + values[n]
	}
	return "{" + strings.Join(names, ",") + "}"
}

func parses(t *testing.T, s string, want api.Value) {
	t.Helper()
	if v, e := json.Parse(s); e != api.OK || !isEqual(v, want) {
		t.Errorf("Parse of %.80q: %.200s, %d, want %.200s", s, tell(v), e, tell(want))
	}
}

func refuseParse(t *testing.T, s string, want api.Errno) {
	t.Helper()
	if v, e := json.Parse(s); e != want || !isZero(v) {
		t.Errorf("Parse of %.80q (%d bytes): %d, %d, want %d", s, len(s), v.Kind, e, want)
	}
}

func prints(t *testing.T, v api.Value, want string) {
	t.Helper()
	if e := json.Check(v); e != api.OK {
		t.Errorf("Check of %.80s: %d", want, e)
	}
	if s, e := json.Print(v); s != want || e != api.OK {
		t.Errorf("Print: %.80q, %d, want %.80q", s, e, want)
	}
}

// refuseValue asks of a value that is not valid.
func refuseValue(t *testing.T, what string, v api.Value) {
	t.Helper()
	if e := json.Check(v); e != api.ErrArg {
		t.Errorf("Check of %.80s: %d", what, e)
	}
	if s, e := json.Print(v); s != "" || e != api.ErrArg {
		t.Errorf("Print of %.80s: %.80q, %d", what, s, e)
	}
}

func refusePrint(t *testing.T, what string, v api.Value) {
	t.Helper()
	if e := json.Check(v); e != api.OK {
		t.Errorf("Check of %s: %d", what, e)
	}
	if s, e := json.Print(v); s != "" || e != api.ErrFull {
		t.Errorf("Print of %s: %d bytes, %d", what, len(s), e)
	}
}

// same holds two values against each other both ways.
func same(t *testing.T, a, b api.Value, want bool) {
	t.Helper()
	if json.Same(a, b) != want || json.Same(b, a) != want {
		t.Errorf("Same of %.100s and %.100s: not %v", tell(a), tell(b), want)
	}
}
