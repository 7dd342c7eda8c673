package json_test

import (
	"math/rand"
	"strings"
	"testing"

	"cooperage/api"
	"cooperage/json"
)

// What is printed is parsed as the same value, and that is printed alike.
func TestJs4Printed(t *testing.T) {
	r := rand.New(rand.NewSource(60))
	for range 10000 {
		v := randomValue(r, 1+r.Intn(7))
		s, e := json.Print(v)
		if e != api.OK {
			t.Fatalf("Print of %s: %d", tell(v), e)
		}
		back, e := json.Parse(s)
		if e != api.OK || !json.Same(v, back) || !isSame(v, back) {
			t.Errorf("Parse of %q: %s, %d, want %s", s, tell(back), e, tell(v))
		}
		if again, e := json.Print(back); again != s || e != api.OK {
			t.Errorf("Print: %q, then %q, %d", s, again, e)
		}
	}
	for depth := range api.MaxDepth {
		for _, v := range []api.Value{nested(depth, null()), nestedObjects(depth, list())} {
			s, e := json.Print(v)
			back, e2 := json.Parse(s)
			if e != api.OK || e2 != api.OK || !isEqual(v, back) {
				t.Errorf("depth %d: %d, %d", depth, e, e2)
			}
		}
	}
	for _, s := range []string{`"` + strings.Repeat("a", api.MaxText-2) + `"`, strings.Repeat("7", api.MaxText), "[" + strings.Repeat("1,", api.MaxText/2-2) + "22]"} {
		v, e := json.Parse(s)
		if printed, e2 := json.Print(v); e != api.OK || e2 != api.OK || printed != s {
			t.Errorf("%.40q: %d, %d", s, e, e2)
		}
	}
}

// someText is one of the texts of a value: with blanks, and letters as escapes.
func someText(r *rand.Rand, v api.Value) string {
	blank := func() string { return []string{"", "", " ", "\n", "\t\r ", "  "}[r.Intn(6)] }
	quoted := func(s string) string {
		var told strings.Builder
		for _, letter := range s {
			q := canonical(text(string(letter)))
			q = q[1 : len(q)-1]
			switch {
			case letter == '/' && r.Intn(2) == 0:
				q = `\/`
			case letter < 0x10000 && r.Intn(3) == 0:
				const hex = "0123456789abcdef0123456789ABCDEF"
				q = `\u`
				for shift := 12; shift >= 0; shift -= 4 {
					q += hex[int(letter)>>shift&15+16*r.Intn(2):][:1]
				}
			}
			told.WriteString(q)
		}
		return `"` + told.String() + `"`
	}
	var inner []string
	switch v.Kind {
	case api.JText:
		return blank() + quoted(v.Text) + blank()
	case api.JList:
		for _, l := range v.List {
			inner = append(inner, someText(r, l))
		}
		return blank() + "[" + blank() + strings.Join(inner, ",") + "]" + blank()
	case api.JObject:
		for _, f := range v.Fields {
			inner = append(inner, blank()+quoted(f.Name)+blank()+":"+someText(r, f.Value))
		}
		return blank() + "{" + blank() + strings.Join(inner, ",") + "}" + blank()
	}
	return blank() + canonical(v) + blank()
}

// However a text is written, what it denotes has one canonical form.
func TestJs4OneForm(t *testing.T) {
	r := rand.New(rand.NewSource(61))
	for range 10000 {
		v := randomValue(r, 1+r.Intn(5))
		s := someText(r, shuffled(r, v))
		read, e := json.Parse(s)
		if e != api.OK || !json.Same(v, read) {
			t.Fatalf("Parse of %q: %s, %d, want %s", s, tell(read), e, tell(v))
		}
		if printed, e := json.Print(read); printed != canonical(v) || e != api.OK {
			t.Errorf("Print of what %q denotes: %q, %d", s, printed, e)
		}
		if e := json.Check(read); e != api.OK {
			t.Errorf("Check of what %q denotes: %d", s, e)
		}
	}
}

// Valid values are the same if and only if their canonical forms are equal.
func TestJs4SameForms(t *testing.T) {
	r := rand.New(rand.NewSource(62))
	var values []api.Value
	for range 300 {
		v := randomValue(r, 1+r.Intn(3))
		values = append(values, v, shuffled(r, v))
		if v = changed(r, v); json.Check(v) == api.OK {
			values = append(values, v)
		}
	}
	for _, a := range values {
		first, _ := json.Print(a)
		for _, b := range values {
			second, _ := json.Print(b)
			if json.Same(a, b) != (first == second) {
				t.Fatalf("Same of %q and %q: %v", first, second, json.Same(a, b))
			}
		}
	}
}

// What a call answers does not hang on the calls ahead of it.
func TestAgain(t *testing.T) {
	const s = `{"b":[1,{"c":null}],"a":"x"}`
	v, _ := json.Parse(s)
	printed, _ := json.Print(v)
	for range 5 {
		json.Parse("[[[[")
		json.Parse(strings.Repeat("[", api.MaxText))
		json.Print(selfList(1, 0))
		json.Same(v, null())
		json.Get(v, "b")
		again, e := json.Parse(s)
		if p, e2 := json.Print(again); e != api.OK || e2 != api.OK || !isEqual(again, v) || p != printed {
			t.Errorf("Parse of %q: %s, %d", s, tell(again), e)
		}
	}
}
