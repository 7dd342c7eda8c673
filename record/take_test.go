package record_test

import (
	"math/rand"
	"strings"
	"testing"

	"cooperage/api"
	"cooperage/digest"
	"cooperage/record"
)

func TestRc1TakeKinds(t *testing.T) {
	for _, kind := range kinds {
		s, _ := record.Put(kind, good(kind))
		for _, other := range kinds {
			if other != kind {
				refuseText(t, other, s)
			}
		}
		for _, no := range noKinds {
			for _, text := range []string{s, "", "{", "null", strings.Repeat(" ", api.MaxText+1)} { // the kind's error is named first
				if b, e := record.Take(no, text); e != api.ErrArg || !isSame(b, api.Base{}) {
					t.Errorf("Take of kind %d, of %.40q: %#v, %d, want ErrArg", no, text, b, e)
				}
			}
		}
	}
}

func TestRc1TakeTexts(t *testing.T) {
	layer := `{"blob":0,"diff":"` + digest.Of("x") + `","done":true,"id":"000001","names":["base","b"],"parent":"","size":1}`
	image := `{"id":"00000a","items":[{"data":"76","digest":"` + digest.Of("v") + `","key":"k"}],"meta":"006d","names":[],"top":"0000ff"}`
	box := `{"id":"abcdef","image":"","items":[],"layer":"000001","meta":"","names":["web"]}`
	for s, want := range map[string]api.Base{
		`{"gen":0,"layers":[]}`:                             {},
		`{"gen":9007199254740992,"layers":[` + layer + `]}`: {Gen: 9007199254740992, Layers: []api.Layer{{Id: "000001", Names: []string{"base", "b"}, Diff: digest.Of("x"), Size: 1, Done: true}}},
	} {
		takes(t, api.BaseLayers, s, want)
	}
	takes(t, api.BaseImages, `{"gen":0,"images":[]}`, api.Base{})
	takes(t, api.BaseImages, `{"gen":12,"images":[`+image+`]}`, api.Base{Gen: 12, Images: []api.Image{{Id: "00000a", Top: "0000ff", Meta: "\x00m", Items: []api.Item{item("k", "v")}}}})
	takes(t, api.BaseBoxes, `{"boxes":[],"gen":0}`, api.Base{})
	takes(t, api.BaseBoxes, `{"boxes":[`+box+`],"gen":1}`, api.Base{Gen: 1, Boxes: []api.Box{{Id: "abcdef", Names: []string{"web"}, Layer: "000001"}}})
}

func takes(t *testing.T, kind int, s string, want api.Base) {
	t.Helper()
	if b, e := record.Take(kind, s); e != api.OK || !isSame(b, want) {
		t.Errorf("Take of kind %d, of %q: %#v, %d, want %#v", kind, s, b, e, want)
	}
	if text, e := record.Put(kind, want); e != api.OK || text != s {
		t.Errorf("Put of kind %d: %q, %d, want %q", kind, text, e, s)
	}
}

// fieldTexts is the text of an object with a database's two fields, in their order.
func fieldTexts(kind int, list, gen string) string {
	gen = `"gen":` + gen
	switch kind {
	case api.BaseBoxes:
		return `{"boxes":` + list + `,` + gen + `}`
	case api.BaseImages:
		return `{` + gen + `,"images":` + list + `}`
	}
	return `{` + gen + `,"layers":` + list + `}`
}

func TestRc1TakeFields(t *testing.T) {
	for _, kind := range kinds {
		takes(t, kind, fieldTexts(kind, "[]", "0"), api.Base{})
		for _, gen := range []string{"null", "true", `""`, `"0"`, "[]", "{}", "-0", "-1", "0.0", "1.0", "0e0", "1e1", "00", "01", "9007199254740993", "9223372036854775807", "9223372036854775808", "-9223372036854775808", "99999999999999999999999"} {
			refuseText(t, kind, fieldTexts(kind, "[]", gen))
		}
		for _, list := range []string{"null", "false", "0", `""`, "{}", "[null]", "[0]", `[""]`, `["000001"]`, "[[]]", "[{}]", `[{"id":"000001"}]`, `{"id":"000001"}`, "[ ]", "[" + strings.Repeat("{},", 20000) + "{}]"} {
			refuseText(t, kind, fieldTexts(kind, list, "0"))
		}
	}
}

func TestRc1TakeNoTexts(t *testing.T) {
	for _, kind := range kinds {
		for _, s := range noTexts() {
			refuseText(t, kind, s)
		}
		s := fieldTexts(kind, "[]", "0")
		for _, text := range []string{
			s + " ", " " + s, s + "\n", s + "}", s + s, "[" + s + "]", strings.ReplaceAll(s, ":", ": "), strings.ReplaceAll(s, ":", " :"), strings.ReplaceAll(s, ",", ", "), strings.ReplaceAll(s, "e", `\u0065`),
			strings.Replace(s, "{", `{"a":0,`, 1), strings.Replace(s, "}", `,"z":0}`, 1), strings.Replace(s, "}", `,"gen":0}`, 1), strings.Replace(s, "{", `{"gen":0,`, 1), strings.ReplaceAll(s, "gen", "Gen"), strings.ReplaceAll(s, "s", "S"),
			`{"gen":0}`, `{"boxes":[]}`, `{"images":[]}`, `{"layers":[]}`, `{"gen":0,"boxes":[]}`, `{"images":[],"gen":0}`, `{"layers":[],"gen":0}`,
			`{"boxes":[],"gen":0,"images":[],"layers":[]}`, `{"boxes":[],"gen":0,"images":[]}`, `{"gen":0,"images":[],"layers":[]}`,
			`{"birth":3,"pid":7,"stamp":0}`, `{"moves":[]}`, `{"mounts":[]}`,
		} {
			refuseText(t, kind, text)
		}
	}
}

// Texts that are as canonical as can be, but whose database may not be.
func TestRc1TakeNotValid(t *testing.T) {
	for _, kind := range kinds {
		s := accept(t, "two records", kind, good(kind))
		for _, change := range [][2]string{
			{`"00000a"`, `"00000A"`}, {`"00000a"`, `"0000a"`}, {`"00000a"`, `""`}, {`"00000a"`, `"ffffff"`}, {`"abcdef"`, `"00000a"`}, {`"abcdef"`, `"000000"`}, {`"00000a"`, `10`}, {`"00000a"`, `null`},
			{`"web"`, `""`}, {`"web"`, `"a"`}, {`"web"`, `"WEB"`}, {`"web"`, `0`}, {`"web"`, `"` + strings.Repeat("a", 33) + `"`}, {`["web","a"]`, `"web"`}, {`["web","a"]`, `null`}, {`["web","a"]`, `{}`}, {`["web","a"]`, `["b","c","d","e","f"]`}, {`"names":[]`, `"names":["a"]`},
			{`"gen":7`, `"gen":-7`}, {`"gen":7`, `"gen":7.0`}, {`"gen":7`, `"gen":"7"`}, {`"gen":7`, `"gen":9007199254740993`},
			{`"size":1`, `"size":8193`}, {`"size":1`, `"size":-1`}, {`"size":1`, `"size":"1"`}, {`"size":1`, `"size":true`}, {`"blob":2`, `"blob":33`}, {`"blob":2`, `"blob":-2`}, {`"blob":0`, `"blob":null`}, {`"blob":0`, `"blob":""`}, {`"size":1`, `"size":null`},
			{`true`, `1`}, {`true`, `"true"`}, {`true`, `null`}, {`false`, `0`}, {`false`, `null`}, {`false`, `""`}, {`false`, `[]`}, {`"done":true,`, ``}, {`"blob":0,`, ``},
			{`"parent":""`, `"parent":"00000a"`}, {`"parent":""`, `"parent":null`}, {`"parent":"",`, ``}, {`"parent":""`, `"parent":0`}, {`"parent":""`, `"parent":[]`}, {`"top":""`, `"top":null`}, {`"image":""`, `"image":null`}, {`"layer":"0000ff"`, `"layer":""`},
			{`"meta":"6d80"`, `"meta":"6D80"`}, {`"meta":"6d80"`, `"meta":"6d8"`}, {`"meta":"6d80"`, `"meta":"m"`}, {`"meta":"6d80"`, `"meta":6`}, {`"meta":"6d80"`, `"meta":"` + strings.Repeat("00", 65) + `"`}, {`"meta":""`, `"meta":null`}, {`"meta":""`, `"meta":"zz"`},
			{`"data":"00ff"`, `"data":"00fe"`}, {`"data":"00ff"`, `"data":"00FF"`}, {`"data":"00ff"`, `"data":""`}, {`"data":""`, `"data":"00"`}, {`"data":""`, `"data":null`}, {`"items":[]`, `"items":null`}, {`"items":[]`, `"items":{}`}, {`"items":[]`, `"items":[{}]`}, {`"key":"a"`, `"key":"c"`}, {`"key":"a"`, `"key":"b"`}, {`"key":"b"`, `"key":""`}, {`"key":"b"`, `"key":"B"`},
			{digest.Of("\x00\xff"), digest.Of("")}, {digest.Of("x"), ""}, {digest.Of("x"), "sha256:"}, {digest.Of("x"), strings.ToUpper(digest.Of("x"))}, {"sha256", "sha25"},
			{`"id"`, `"Id"`}, {`"id"`, `"a"`}, {`"names"`, `"name"`}, {`{"blob"`, `{"a":0,"blob"`}, {`{"id"`, `{"a":0,"id"`}, {`{"data"`, `{"a":0,"data"`}, {`{"id"`, `{"id":"00000a","id"`},
		} {
			if changed := strings.Replace(s, change[0], change[1], 1); changed != s { // not all kinds have it
				refuseText(t, kind, changed)
			}
		}
	}
}

// No other text is read as the same, and none is read as what it does not tell.
func TestRc3OneText(t *testing.T) {
	for _, kind := range kinds {
		b := good(kind)
		s, _ := record.Put(kind, b)
		for _, text := range mutants(s) {
			back, e := record.Take(kind, text)
			if e != api.OK {
				if e != api.ErrBad || !isSame(back, api.Base{}) {
					t.Errorf("Take of kind %d, of %q: %#v, %d", kind, text, back, e)
				}
				continue
			}
			if again, e := record.Put(kind, back); again != text || e != api.OK || again != toldBase(t, kind, back) {
				t.Errorf("Take of kind %d, of %q: %#v, whose text is %q, %d", kind, text, back, again, e)
			}
			if isSame(back, b) != (text == s) {
				t.Errorf("Take of kind %d, of %q: %#v", kind, text, back)
			}
		}
	}
}

// Unlike databases have unlike texts.
func TestRc3Apart(t *testing.T) {
	r := rand.New(rand.NewSource(63))
	for _, kind := range kinds {
		texts := map[string]api.Base{}
		for range 2000 {
			b := some(r, kind, 2)
			s, e := record.Put(kind, b)
			if other, met := texts[s]; e != api.OK || met && !isSame(b, other) {
				t.Errorf("Put of kind %d: %q, %d, of %#v and %#v", kind, s, e, b, other)
			}
			texts[s] = b
		}
	}
}

// Arguments stay as they are, with what is behind them, and answers share nothing.
func TestOwnMemory(t *testing.T) {
	for _, kind := range kinds {
		b := greatest(kind, 1)
		b.Boxes, b.Images, b.Layers = shortened(b.Boxes), shortened(b.Images), shortened(b.Layers)
		for i := range b.Boxes {
			b.Boxes[i].Names, b.Boxes[i].Items = shortened(b.Boxes[i].Names), shortened(b.Boxes[i].Items)
		}
		for i := range b.Images {
			b.Images[i].Names, b.Images[i].Items = shortened(b.Images[i].Names), shortened(b.Images[i].Items)
		}
		for i := range b.Layers {
			b.Layers[i].Names = shortened(b.Layers[i].Names)
		}
		before := whole(b)
		s := accept(t, "with memory behind it", kind, b)
		if !isSame(whole(b), before) {
			t.Errorf("kind %d: the argument was changed", kind)
		}
		first, _ := record.Take(kind, s)
		second, _ := record.Take(kind, s)
		spoil(first)
		if !isSame(second, b) {
			t.Errorf("kind %d: two answers share memory", kind)
		}
	}
}

// Lists of one answer share nothing: what is added to one does not show in the next.
func TestOwnLists(t *testing.T) {
	for _, kind := range kinds {
		want := greatest(kind, 0)
		s, _ := record.Put(kind, want)
		b, _ := record.Take(kind, s)
		for _, names := range namesOf(b) {
			_ = append(names, "other", "other")
		}
		for i := range b.Boxes {
			_ = append(b.Boxes[i].Items, api.Item{}, api.Item{})
		}
		for i := range b.Images {
			_ = append(b.Images[i].Items, api.Item{}, api.Item{})
		}
		if !isSame(b, want) {
			t.Errorf("kind %d: lists of one answer share memory: %#v", kind, b)
		}
	}
}

func namesOf(b api.Base) [][]string {
	var l [][]string
	for _, x := range b.Boxes {
		l = append(l, x.Names)
	}
	for _, x := range b.Images {
		l = append(l, x.Names)
	}
	for _, x := range b.Layers {
		l = append(l, x.Names)
	}
	return l
}

// shortened ends ahead of its last element, which is behind it then.
func shortened[T any](l []T) []T {
	if len(l) == 0 {
		return l
	}
	return l[:len(l)-1]
}

// whole is a copy of a database with all that is behind its lists.
func whole(b api.Base) api.Base {
	c := api.Base{Gen: b.Gen}
	for _, x := range b.Boxes[:cap(b.Boxes)] {
		x.Names, x.Items = append([]string{}, x.Names[:cap(x.Names)]...), append([]api.Item{}, x.Items[:cap(x.Items)]...)
		c.Boxes = append(c.Boxes, x)
	}
	for _, x := range b.Images[:cap(b.Images)] {
		x.Names, x.Items = append([]string{}, x.Names[:cap(x.Names)]...), append([]api.Item{}, x.Items[:cap(x.Items)]...)
		c.Images = append(c.Images, x)
	}
	for _, x := range b.Layers[:cap(b.Layers)] {
		x.Names = append([]string{}, x.Names[:cap(x.Names)]...)
		c.Layers = append(c.Layers, x)
	}
	return c
}

// spoil overwrites all that a database has in lists of its records.
func spoil(b api.Base) {
	for _, names := range namesOf(b) {
		for i := range names {
			names[i] = "spoilt"
		}
	}
	for i := range b.Boxes {
		for j := range b.Boxes[i].Items {
			b.Boxes[i].Items[j] = api.Item{}
		}
		b.Boxes[i].Id = "spoilt"
	}
	for i := range b.Images {
		for j := range b.Images[i].Items {
			b.Images[i].Items[j] = api.Item{}
		}
		b.Images[i].Id = "spoilt"
	}
	for i := range b.Layers {
		b.Layers[i].Id = "spoilt"
	}
}
