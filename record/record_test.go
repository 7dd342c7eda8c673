package record_test

import (
	"encoding/json"
	"fmt"
	"math/rand"
	"reflect"
	"strings"
	"testing"

	"cooperage/api"
	"cooperage/digest"
	"cooperage/record"
)

const maxCount = 1 << 53

var kinds = []int{api.BaseBoxes, api.BaseImages, api.BaseLayers}

// noKinds are numbers of no database's kind.
var noKinds = []int{0, 4, 5, -1, -3, 1 << 32, 1<<32 + 1, api.MaxInt, -api.MaxInt - 1}

// item is a valid one.
func item(key, data string) api.Item {
	return api.Item{Key: key, Digest: digest.Of(data), Data: data}
}

// good is a valid database of a kind, with two records, in memory of its own.
func good(kind int) api.Base {
	items := []api.Item{item("a", "\x00\xff"), item("b", "")}
	switch kind {
	case api.BaseBoxes:
		return api.Base{Gen: 7, Boxes: []api.Box{
			{Id: "00000a", Names: []string{"web", "a"}, Image: "000001", Layer: "0000ff", Meta: "m\x80", Items: items},
			{Id: "abcdef", Layer: "000000"},
		}}
	case api.BaseImages:
		return api.Base{Gen: 7, Images: []api.Image{
			{Id: "00000a", Names: []string{"web", "a"}, Top: "000001", Meta: "m\x80", Items: items},
			{Id: "abcdef"},
		}}
	}
	return api.Base{Gen: 7, Layers: []api.Layer{
		{Id: "00000a", Names: []string{"web", "a"}, Diff: digest.Of("x"), Size: 1, Done: true},
		{Id: "abcdef", Parent: "00000a", Diff: digest.Of(""), Blob: 2},
	}}
}

// some is a valid database, with up to so many records.
func some(r *rand.Rand, kind, most int) api.Base {
	b := api.Base{Gen: number(r, 0, maxCount)}
	ids := someIds(r, r.Intn(most+1))
	used := map[string]bool{}
	for _, id := range ids {
		var names []string
		for range r.Intn(api.MaxNames + 1) {
			if name := someName(r); !used[name] {
				used[name] = true
				names = append(names, name)
			}
		}
		switch kind {
		case api.BaseBoxes:
			b.Boxes = append(b.Boxes, api.Box{Id: id, Names: names, Image: someRef(r, ""), Layer: someIds(r, 1)[0], Meta: someBytes(r), Items: someItems(r)})
		case api.BaseImages:
			b.Images = append(b.Images, api.Image{Id: id, Names: names, Top: someRef(r, ""), Meta: someBytes(r), Items: someItems(r)})
		default:
			b.Layers = append(b.Layers, api.Layer{Id: id, Parent: someRef(r, id), Names: names, Diff: digest.Of(someBytes(r)), Size: number(r, 0, api.MaxData), Blob: number(r, 0, api.MaxRecords), Done: r.Intn(2) == 0})
		}
	}
	return b
}

// number is from one number to another, often just one of the two.
func number(r *rand.Rand, least, greatest int) int {
	switch r.Intn(4) {
	case 0:
		return least
	case 1:
		return greatest
	}
	return least + r.Intn(greatest-least+1)
}

// someIds are increasing ones.
func someIds(r *rand.Rand, n int) []string {
	var ids []string
	next := 0
	for i := range n {
		next += r.Intn(0x1000000/n) + 1
		if i == 0 && r.Intn(3) == 0 {
			next = 0
		}
		ids = append(ids, fmt.Sprintf("%06x", min(next, 0x1000000-n+i)))
	}
	return ids
}

// someRef is an id other than one, or none.
func someRef(r *rand.Rand, own string) string {
	if id := someIds(r, 1)[0]; id != own && r.Intn(2) == 0 {
		return id
	}
	return ""
}

// someName is a name.
func someName(r *rand.Rand) string {
	const bytes = "abcdefghijklmnopqrstuvwxyz0123456789._-"
	name := make([]byte, number(r, 1, api.MaxName))
	for i := range name {
		name[i] = bytes[r.Intn(len(bytes))]
	}
	return string(name)
}

// someBytes are up to MaxMeta of them.
func someBytes(r *rand.Rand) string {
	b := make([]byte, number(r, 0, api.MaxMeta))
	for i := range b {
		b[i] = byte(r.Intn(256))
	}
	return string(b)
}

// someItems are valid ones, with increasing keys.
func someItems(r *rand.Rand) []api.Item {
	var l []api.Item
	for range r.Intn(api.MaxItems + 1) {
		if key := someName(r); len(l) == 0 || key > l[len(l)-1].Key {
			l = append(l, item(key, someBytes(r)))
		}
	}
	return l
}

// object are fields, which Go's library tells in the order of their names.
type object = map[string]any

// told is a text as Go's library has it.
func told(t *testing.T, v any) string {
	t.Helper()
	s, err := json.Marshal(v)
	if err != nil {
		t.Fatal(err)
	}
	return string(s)
}

// toldBase is the text of a valid database.
func toldBase(t *testing.T, kind int, b api.Base) string {
	t.Helper()
	records := []any{}
	for _, x := range b.Boxes {
		records = append(records, object{"id": x.Id, "names": append([]string{}, x.Names...), "image": x.Image, "layer": x.Layer, "meta": fmt.Sprintf("%x", x.Meta), "items": toldItems(x.Items)})
	}
	for _, x := range b.Images {
		records = append(records, object{"id": x.Id, "names": append([]string{}, x.Names...), "top": x.Top, "meta": fmt.Sprintf("%x", x.Meta), "items": toldItems(x.Items)})
	}
	for _, x := range b.Layers {
		records = append(records, object{"id": x.Id, "parent": x.Parent, "names": append([]string{}, x.Names...), "diff": x.Diff, "size": x.Size, "blob": x.Blob, "done": x.Done})
	}
	return told(t, object{"gen": b.Gen, []string{"", "boxes", "images", "layers"}[kind]: records})
}

func toldItems(l []api.Item) []any {
	items := []any{}
	for _, x := range l {
		items = append(items, object{"key": x.Key, "digest": x.Digest, "data": fmt.Sprintf("%x", x.Data)})
	}
	return items
}

// accept holds what is answered of a valid database against what is to be, and answers its text.
func accept(t *testing.T, what string, kind int, b api.Base) string {
	t.Helper()
	if e := record.Check(kind, b); e != api.OK {
		t.Errorf("%s: Check of kind %d: %d, want OK", what, kind, e)
	}
	s, e := record.Put(kind, b)
	if want := toldBase(t, kind, b); e != api.OK || s != want {
		t.Errorf("%s: Put of kind %d: %q, %d, want %q", what, kind, s, e, want)
	}
	back, e := record.Take(kind, s)
	if e != api.OK || !isSame(back, b) {
		t.Errorf("%s: Take of kind %d, of %q: %#v, %d, want %#v", what, kind, s, back, e, b)
	}
	return s
}

// refuse does it where the database may not be.
func refuse(t *testing.T, what string, kind int, b api.Base) {
	t.Helper()
	if e := record.Check(kind, b); e != api.ErrArg {
		t.Errorf("%s: Check of kind %d: %d, want ErrArg", what, kind, e)
	}
	if s, e := record.Put(kind, b); s != "" || e != api.ErrArg {
		t.Errorf("%s: Put of kind %d: %q, %d, want ErrArg", what, kind, s, e)
	}
}

// refuseText does it where the text is none of a database.
func refuseText(t *testing.T, kind int, s string) {
	t.Helper()
	if b, e := record.Take(kind, s); e != api.ErrBad || !isSame(b, api.Base{}) {
		t.Errorf("Take of kind %d, of %.200q: %#v, %d, want ErrBad", kind, s, b, e)
	}
}

// isSame holds all parts against each other; no list and an empty one are the same.
func isSame(a, b any) bool { return fmt.Sprintf("%#v", plain(a)) == fmt.Sprintf("%#v", plain(b)) }

// plain is a copy in which no list is empty.
func plain(v any) any {
	whole := reflect.New(reflect.TypeOf(v)).Elem()
	setPlain(whole, reflect.ValueOf(v))
	return whole.Interface()
}

func setPlain(to, from reflect.Value) {
	switch from.Kind() {
	case reflect.Struct:
		for i := range from.NumField() {
			setPlain(to.Field(i), from.Field(i))
		}
	case reflect.Slice:
		for i := range from.Len() {
			to.Set(reflect.Append(to, reflect.Zero(from.Type().Elem())))
			setPlain(to.Index(i), from.Index(i))
		}
	default:
		to.Set(from)
	}
}

// forEachByte goes through the texts in which a byte of one is another, one of all.
func forEachByte(s string, visit func(text string, at int, c byte)) {
	for at := range len(s) {
		for c := range 256 {
			visit(s[:at]+string([]byte{byte(c)})+s[at+1:], at, byte(c))
		}
	}
}

// mutants are texts that are nearly one: each byte gone, twice, another, or with something ahead of it.
func mutants(s string) []string {
	var l []string
	for at := range len(s) + 1 {
		head, tail := s[:at], s[at:]
		l = append(l, head, tail)
		for _, c := range []string{" ", "\n", "0", "1", "9", "a", "f", "g", "A", "-", ".", ",", ":", `"`, `\`, "[", "]", "{", "}", "e", "\x00", "\xff", "null", "true", `""`, "[]", "{}"} {
			l = append(l, head+c+tail)
			if tail != "" {
				l = append(l, head+c+tail[1:])
			}
		}
		if tail != "" {
			l = append(l, head+tail[1:], head+tail[:1]+tail, head+`\u00`+fmt.Sprintf("%02x", tail[0])+tail[1:], head+strings.ToUpper(tail[:1])+tail[1:])
		}
	}
	return l
}
