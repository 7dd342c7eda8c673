package json_test

import (
	"math/rand"
	"runtime/debug"
	"slices"
	"strings"
	"testing"

	"cooperage/api"
	"cooperage/json"
)

func TestJs3Same(t *testing.T) {
	values := []api.Value{
		{}, {Kind: -1}, {Kind: 8}, null(), falsehood(), truth(), number("0"), number("-0"), number("0.0"), text("0"), text(""), text("a"), text("\xff"),
		number(""), {Kind: api.JList, Text: "a"}, {Kind: api.JNull, Text: "a"}, list(), list(null()), list(truth()), list(null(), null()), list(null(), truth()),
		list(truth(), null()), list(list(null())), list(list(), null()), list(null(), list()), object(), object(field("a", null())), object(field("b", null())), object(field("a", truth())),
		object(field("a", null()), field("b", null())), object(field("a", null()), field("b", truth())), object(field("a", truth()), field("b", null())),
		object(field("a", null()), field("a", null())), object(field("a", null()), field("a", truth())), object(field("a", truth()), field("a", null())),
		object(field("", null())), object(field("\xff", null())), object(field("a", object(field("a", null())))),
		{Kind: api.JNull, List: []api.Value{null()}}, {Kind: api.JObject, List: []api.Value{null()}}, {Kind: api.JList, Fields: []api.Field{field("a", null())}},
		{Fields: []api.Field{field("a", null())}}, {Fields: []api.Field{field("a", null())}, List: []api.Value{null()}}, {Fields: []api.Field{field("a", null())}, List: []api.Value{truth()}},
	}
	for i, a := range values {
		for k, b := range values {
			b = deepCopy(b)
			same(t, a, b, i == k)
			same(t, list(null(), a), list(null(), b), i == k)
			same(t, list(a, null()), list(b, null()), i == k)
			same(t, object(field("a", a), field("b", null())), object(field("b", null()), field("a", b)), i == k)
			same(t, object(field("b", a), field("a", null())), object(field("a", null()), field("b", b)), i == k)
			same(t, nested(50, a), nested(50, b), i == k)
		}
	}
	same(t, api.Value{}, api.Value{List: []api.Value{}, Fields: []api.Field{}}, true)
}

// The order of fields is of no account, but for those of one name.
func TestJs3SameOrder(t *testing.T) {
	a, b, c := field("a", number("1")), field("b", number("2")), field("c", number("3"))
	other := field("a", number("4"))
	same(t, object(a, b, c), object(c, b, a), true)
	same(t, object(a, b, c), object(b, c, a), true)
	same(t, object(a, b, c), object(c, b, other), false)
	same(t, object(a, b), object(a, b, c), false)
	same(t, object(a, b, c), object(a, b, b), false)
	same(t, object(a, other), object(a, other), true)
	same(t, object(a, other), object(other, a), false)
	same(t, object(a, b, other), object(b, a, other), true)
	same(t, object(a, b, other), object(a, other, b), true)
	same(t, object(a, b, other), object(other, b, a), false)
	same(t, object(a, a, other), object(a, other, other), false)
	same(t, object(a, a, other), object(a, a, other), true)
	same(t, list(number("1"), number("2")), list(number("2"), number("1")), false)
	same(t, list(object(a, b), object(c)), list(object(b, a), object(c)), true)
	same(t, list(object(a, b), object(c)), list(object(c), object(b, a)), false)

	var many, behind []api.Field
	for i := range 500 {
		many = append(many, field([]string{"x", "y"}[i%2], number(numbers[i%len(numbers)])))
	}
	for _, n := range []string{"y", "x"} {
		for _, f := range many {
			if f.Name == n {
				behind = append(behind, f)
			}
		}
	}
	same(t, object(many...), object(behind...), true)
	behind[0], behind[1] = behind[1], behind[0]
	same(t, object(many...), object(behind...), false)
}

// isSame is what the chapter's words say; it is written apart from the package. Calls are as deep as the values are.
func isSame(a, b api.Value) bool {
	if a.Kind != b.Kind || a.Text != b.Text || !slices.EqualFunc(a.List, b.List, isSame) || len(a.Fields) != len(b.Fields) {
		return false
	}
	named := func(fields []api.Field, name string) (named []api.Value) {
		for _, f := range fields {
			if f.Name == name {
				named = append(named, f.Value)
			}
		}
		return named
	}
	for _, f := range a.Fields {
		if !slices.EqualFunc(named(a.Fields, f.Name), named(b.Fields, f.Name), isSame) {
			return false
		}
	}
	return true
}

func TestJs3SameAny(t *testing.T) {
	r := rand.New(rand.NewSource(56))
	var alike int
	for range 50000 {
		a, b := anyValue(r, 4), anyValue(r, 4)
		if r.Intn(2) == 0 {
			b = shuffled(r, a)
		}
		want := isSame(a, b)
		same(t, a, b, want)
		if want && len(tell(a)) > 20 {
			alike++
		}
		same(t, a, a, true)
	}
	if alike < 1000 {
		t.Errorf("just %d were the same", alike)
	}
}

// changed is a value with one thing in it other than it was.
func changed(r *rand.Rand, v api.Value) api.Value {
	v = deepCopy(v)
	at := &v
	for len(at.List)+len(at.Fields) > 0 && r.Intn(4) > 0 {
		if i := r.Intn(len(at.List) + len(at.Fields)); i < len(at.List) {
			at = &at.List[i]
		} else if i -= len(at.List); r.Intn(4) > 0 {
			at = &at.Fields[i].Value
		} else {
			at.Fields[i].Name += "!"
			return v
		}
	}
	switch r.Intn(4) {
	case 0:
		at.Kind++
	case 1:
		at.Text += "!"
	case 2:
		at.List = append(at.List, null())
	case 3:
		at.Fields = append(at.Fields, field("!", null()))
	}
	return v
}

func TestJs3SameChanged(t *testing.T) {
	r := rand.New(rand.NewSource(57))
	for range 20000 {
		v := randomValue(r, 6)
		same(t, v, shuffled(r, v), true)
		same(t, v, shuffled(r, changed(r, v)), false)
	}
}

func TestJs3Get(t *testing.T) {
	fields := []api.Field{field("b", number("1")), field("a", number("2")), field("", number("3")), field("\xff", number("4")), field("a", number("5")), field("\u00e9", list(number("6"))), field("z", api.Value{})}
	for _, kind := range []int{api.JObject, api.JList, api.JNull, api.JText, 0, -1, 99} {
		v := api.Value{Kind: kind, Text: "a", List: []api.Value{text("a")}, Fields: fields}
		for name, want := range map[string]api.Value{"b": number("1"), "a": number("2"), "": number("3"), "\xff": number("4"), "\u00e9": list(number("6")), "z": {}} {
			if got, ok := json.Get(v, name); !ok || !isEqual(got, want) {
				t.Errorf("Get of %q: %s, %v", name, tell(got), ok)
			}
		}
		for _, name := range []string{"A", "aa", "b ", "\x00", "\xfe", "e\u0301", "1", strings.Repeat("a", 100000)} {
			if got, ok := json.Get(v, name); ok || !isZero(got) {
				t.Errorf("Get of %.20q: %s, %v", name, tell(got), ok)
			}
		}
	}
	for _, v := range []api.Value{{}, null(), text("a"), list(object(field("a", null()))), object(), object(field("b", object(field("a", null()))))} {
		if got, ok := json.Get(v, "a"); ok || !isZero(got) {
			t.Errorf("Get of %s: %s, %v", tell(v), tell(got), ok)
		}
	}
}

// scribble changes all that is in a value, and what lies behind the length of its lists.
func scribble(v *api.Value) {
	_ = append(v.List, text("scribbled"))
	_ = append(v.Fields, field("scribbled", null()))
	for i := range v.List {
		scribble(&v.List[i])
		v.List[i].Text = "scribbled"
	}
	for i := range v.Fields {
		scribble(&v.Fields[i].Value)
		v.Fields[i].Name = "scribbled"
	}
}

// What is got shares no memory with the object, nor does one list of it with another one.
func TestJs3GetNewMemory(t *testing.T) {
	r := rand.New(rand.NewSource(58))
	for range 3000 {
		inner := anyValue(r, 5)
		inner.List = append(inner.List, text("behind"))[:len(inner.List)]
		v := object(field("x", null()), field("a", inner))
		want, wantInner := tell(v), tell(inner)
		got, ok := json.Get(v, "a")
		if !ok || tell(got) != wantInner {
			t.Fatalf("Get: %s, want %s", tell(got), wantInner)
		}
		behind := inner.List[:len(inner.List)+1][len(inner.List)]
		scribble(&got)
		if tell(v) != want || behind.Text != "behind" || inner.List[:len(inner.List)+1][len(inner.List)].Text != "behind" {
			t.Fatalf("%s became %s", want, tell(v))
		}
	}
	empty := api.Value{Kind: api.JList, List: make([]api.Value, 1, 2)}
	empty.List[0] = api.Value{Kind: api.JList, List: make([]api.Value, 0, 1)}
	got, _ := json.Get(object(field("a", empty)), "a")
	scribble(&got)
	if behind := empty.List[0].List[:1][0]; !isZero(behind) {
		t.Errorf("behind an empty list: %s", tell(behind))
	}
	got, _ = json.Get(object(field("a", doubled(4, list(null())))), "a")
	got.List[0].List[0].List[0].List[0].List[0] = truth()
	if n := strings.Count(tell(got), tell(truth())); n != 1 {
		t.Errorf("%d lists share their memory: %s", n, tell(got))
	}
}

// depthOf is what the chapter's words say; it is written apart from the package. Calls are as deep as the values are.
func depthOf(v api.Value) int {
	greatest := 0
	for _, inner := range v.List {
		greatest = max(greatest, depthOf(inner))
	}
	for _, f := range v.Fields {
		greatest = max(greatest, depthOf(f.Value))
	}
	return greatest + 1
}

func TestJs3Depth(t *testing.T) {
	r := rand.New(rand.NewSource(59))
	for range 20000 {
		v := anyValue(r, 6)
		if d := json.Depth(v); d != depthOf(v) {
			t.Fatalf("Depth of %s: %d", tell(v), d)
		}
	}
	for _, v := range []api.Value{{}, null(), text("[[]]"), number("1"), list(), object(), {Kind: 77}} {
		if d := json.Depth(v); d != 1 {
			t.Errorf("Depth of %s: %d", tell(v), d)
		}
		for n := range 100 {
			if a, b := json.Depth(nested(n, v)), json.Depth(nestedObjects(n, v)); a != n+1 || b != n+1 {
				t.Errorf("Depth of %d lists, objects: %d, %d", n, a, b)
			}
			if d := json.Depth(list(null(), nested(n, v), object(), nestedObjects(n/2, v))); d != n+2 && n > 0 {
				t.Errorf("Depth of a list: %d, want %d", d, n+2)
			}
			if d := json.Depth(api.Value{Kind: api.JNull, List: []api.Value{nested(n/2, v)}, Fields: []api.Field{field("a", nested(n, v)), field("a", v)}}); d != n+2 {
				t.Errorf("Depth of a null with others in it: %d, want %d", d, n+2)
			}
		}
	}
	if d := json.Depth(doubled(1000, null())); d != 1001 {
		t.Errorf("Depth of doubled lists: %d", d)
	}
}

// Values that are deeper than calls can be: what deep calls would need is more than there is here.
func TestVeryDeep(t *testing.T) {
	const lists = 500000
	defer debug.SetMaxStack(debug.SetMaxStack(1 << 24))
	a, b := nested(lists, null()), nested(lists, null())
	if d := json.Depth(a); d != lists+1 {
		t.Errorf("Depth: %d", d)
	}
	if !json.Same(a, b) || json.Same(a, nested(lists, truth())) || json.Same(a, list(b)) {
		t.Error("Same")
	}
	if e := json.Check(a); e != api.ErrArg {
		t.Errorf("Check: %d", e)
	}
	if s, e := json.Print(a); s != "" || e != api.ErrArg {
		t.Errorf("Print: %q, %d", s, e)
	}
	if got, ok := json.Get(object(field("a", a)), "a"); !ok || json.Depth(got) != lists+1 {
		t.Error("Get")
	}
}

// Values that are in themselves have no end, but calls do.
func TestInItself(t *testing.T) {
	for _, v := range []api.Value{selfList(1, 0), selfList(2, 0), selfList(2, 1), selfList(100, 50), selfObject(""), selfObject("a"), list(null(), selfObject("b"), null()), object(field("a", selfList(3, 0)), field("a", selfObject("a")))} {
		if d := json.Depth(v); d != api.MaxInt {
			t.Errorf("Depth: %d", d)
		}
		if e := json.Check(v); e != api.ErrArg {
			t.Errorf("Check: %d", e)
		}
		if s, e := json.Print(v); s != "" || e != api.ErrArg {
			t.Errorf("Print: %q, %d", s, e)
		}
		if !json.Same(v, v) || json.Same(v, null()) || json.Same(v, list(null())) || json.Same(nested(5, null()), v) {
			t.Error("Same")
		}
		got, ok := json.Get(object(field("a", v)), "a")
		if !ok || !json.Same(got, v) || json.Depth(got) != api.MaxInt {
			t.Error("Get")
		}
	}
	same(t, selfList(1, 0), selfList(1, 0), true)
	same(t, selfList(1, 0), nested(7, selfList(1, 0)), true)
	same(t, selfList(2, 0), selfList(2, 1), false)
	same(t, selfObject("a"), selfObject("a"), true)
	same(t, selfObject("a"), selfObject("b"), false)

	v := selfList(2, 0)
	got, _ := json.Get(object(field("a", v)), "a")
	got.List[1] = truth()
	if v.List[1].Kind != api.JNull {
		t.Error("Get shares a list with its argument")
	}
}
