package record_test

import (
	"fmt"
	"math/rand"
	"strings"
	"testing"

	"cooperage/api"
	"cooperage/digest"
	"cooperage/record"
)

func TestRc1IsId(t *testing.T) {
	for _, s := range []string{"000000", "ffffff", "012345", "6789ab", "abcdef", "0000ff"} {
		if !record.IsId(s) {
			t.Errorf("IsId(%q) is false", s)
		}
	}
	forEachByte("0a9f5c", func(s string, _ int, c byte) {
		if want := strings.IndexByte("0123456789abcdef", c) >= 0; record.IsId(s) != want {
			t.Errorf("IsId(%q) is %t", s, !want)
		}
	})
	for size := range 40 {
		if s := strings.Repeat("0", size); record.IsId(s) != (size == 6) {
			t.Errorf("IsId(%q) is %t", s, size != 6)
		}
	}
	for _, s := range []string{" 00000", "00000 ", "000000\n", "ABCDEF", "0x0000", "-00001", "+00001", "00000g", "\u0661\u0661\u0661", strings.Repeat("0", 1<<20)} {
		if record.IsId(s) {
			t.Errorf("IsId(%.40q) is true", s)
		}
	}
}

func TestRc1IsName(t *testing.T) {
	const bytes = "abcdefghijklmnopqrstuvwxyz0123456789._-"
	for _, s := range []string{"a", "0", ".", "..", "_", "-", "a.b_c-0", bytes[:32], bytes[len(bytes)-32:], "000001"} {
		if !record.IsName(s) {
			t.Errorf("IsName(%q) is false", s)
		}
	}
	for _, name := range []string{"a", "zz", "web", strings.Repeat("a", 32)} {
		forEachByte(name, func(s string, _ int, c byte) {
			if want := strings.IndexByte(bytes, c) >= 0; record.IsName(s) != want {
				t.Errorf("IsName(%q) is %t", s, !want)
			}
		})
	}
	for size := range 80 {
		if s := strings.Repeat("a", size); record.IsName(s) != (size >= 1 && size <= 32) {
			t.Errorf("IsName of %d bytes is %t", size, record.IsName(s))
		}
	}
	for _, s := range []string{"", " ", "a ", " a", "a b", "A", "aB", "a/b", "a:b", "\u00e9", "a\u00e9", "\xff", "a\n", strings.Repeat("a", 31) + "\u00e9", strings.Repeat("a", 1<<20)} {
		if record.IsName(s) {
			t.Errorf("IsName(%.40q) is true", s)
		}
	}
}

func TestRc1Kinds(t *testing.T) {
	for _, kind := range kinds {
		accept(t, "two records", kind, good(kind))
		accept(t, "no records", kind, api.Base{})
		accept(t, "empty lists", kind, api.Base{Boxes: []api.Box{}, Images: []api.Image{}, Layers: []api.Layer{}})
		for _, other := range kinds {
			if other != kind {
				refuse(t, "records of another kind", other, good(kind))
				both := good(kind)
				both.Boxes = append(both.Boxes, good(other).Boxes...)
				both.Images = append(both.Images, good(other).Images...)
				both.Layers = append(both.Layers, good(other).Layers...)
				refuse(t, "records of two kinds", kind, both)
				refuse(t, "records of two kinds", other, both)
			}
		}
	}
	for _, kind := range noKinds {
		refuse(t, "no kind", kind, api.Base{})
		for _, of := range kinds {
			refuse(t, "no kind", kind, good(of))
		}
	}
}

func TestRc1Gen(t *testing.T) {
	for _, kind := range kinds {
		for _, gen := range []int{0, 1, 9, 10, 1 << 31, 1 << 32, maxCount - 1, maxCount} {
			b := good(kind)
			b.Gen = gen
			accept(t, fmt.Sprint("gen ", gen), kind, b)
			accept(t, fmt.Sprint("gen alone, ", gen), kind, api.Base{Gen: gen})
		}
		for _, gen := range []int{-1, maxCount + 1, 1 << 54, api.MaxInt, -maxCount, -api.MaxInt - 1} {
			b := good(kind)
			b.Gen = gen
			refuse(t, fmt.Sprint("gen ", gen), kind, b)
			refuse(t, fmt.Sprint("gen alone, ", gen), kind, api.Base{Gen: gen})
		}
	}
}

// part sets a text in the first record of a database, wherever its kind has it.
type part struct {
	kinds []int
	set   func(b *api.Base, s string)
}

func ids() map[string]part {
	return map[string]part{
		"id of a container": {[]int{api.BaseBoxes}, func(b *api.Base, s string) { b.Boxes[0].Id = s }},
		"id of an image":    {[]int{api.BaseImages}, func(b *api.Base, s string) { b.Images[0].Id = s }},
		"id of a layer":     {[]int{api.BaseLayers}, func(b *api.Base, s string) { b.Layers[0].Id = s }},
		"its layer":         {[]int{api.BaseBoxes}, func(b *api.Base, s string) { b.Boxes[0].Layer = s }},
	}
}

func refs() map[string]part {
	return map[string]part{
		"its image": {[]int{api.BaseBoxes}, func(b *api.Base, s string) { b.Boxes[0].Image = s }},
		"its top":   {[]int{api.BaseImages}, func(b *api.Base, s string) { b.Images[0].Top = s }},
		"parent":    {[]int{api.BaseLayers}, func(b *api.Base, s string) { b.Layers[0].Parent = s }},
	}
}

// names sets one of those of the first record.
func names() map[string]part {
	return map[string]part{
		"name of a container": {[]int{api.BaseBoxes}, func(b *api.Base, s string) { b.Boxes[0].Names[1] = s }},
		"name of an image":    {[]int{api.BaseImages}, func(b *api.Base, s string) { b.Images[0].Names[1] = s }},
		"name of a layer":     {[]int{api.BaseLayers}, func(b *api.Base, s string) { b.Layers[0].Names[1] = s }},
		"second one's names": {kinds, func(b *api.Base, s string) {
			setNames(b, 1, []string{"first", s})
		}},
	}
}

func datas() map[string]part {
	return map[string]part{
		"meta of a container": {[]int{api.BaseBoxes}, func(b *api.Base, s string) { b.Boxes[0].Meta = s }},
		"meta of an image":    {[]int{api.BaseImages}, func(b *api.Base, s string) { b.Images[0].Meta = s }},
		"data":                {[]int{api.BaseBoxes, api.BaseImages}, func(b *api.Base, s string) { firstItems(b)[1] = item("b", s) }},
	}
}

// setNames gives names to a record, of whatever kind it is.
func setNames(b *api.Base, i int, l []string) {
	switch {
	case len(b.Boxes) > i:
		b.Boxes[i].Names = l
	case len(b.Images) > i:
		b.Images[i].Names = l
	default:
		b.Layers[i].Names = l
	}
}

// setItems gives items to the first record.
func setItems(b *api.Base, l []api.Item) {
	if len(b.Boxes) > 0 {
		b.Boxes[0].Items = l
	} else {
		b.Images[0].Items = l
	}
}

// firstItems are those of the first record.
func firstItems(b *api.Base) []api.Item {
	if len(b.Boxes) > 0 {
		return b.Boxes[0].Items
	}
	return b.Images[0].Items
}

// tryParts sets texts in each of the parts, which may all be there or may not.
func tryParts(t *testing.T, parts map[string]part, try func(t *testing.T, what string, kind int, b api.Base), l ...string) {
	t.Helper()
	for what, p := range parts {
		for _, kind := range p.kinds {
			for _, s := range l {
				b := good(kind)
				p.set(&b, s)
				try(t, fmt.Sprintf("%s %.40q", what, s), kind, b)
			}
		}
	}
}

func accepted(t *testing.T, what string, kind int, b api.Base) {
	t.Helper()
	accept(t, what, kind, b)
}

func TestRc1Ids(t *testing.T) {
	tryParts(t, ids(), accepted, "000000", "012345", "0000ab")
	tryParts(t, refs(), accepted, "", "000000", "ffffff", "abcdef")
	bad := []string{"0", "00000", "0000000", "00000A", "00000g", " 00000", "000000 ", "\x00\x00\x00\x00\x00\x00", strings.Repeat("0", 1<<17)}
	tryParts(t, ids(), refuse, append(bad, "")...)
	tryParts(t, refs(), refuse, bad...)
}

func TestRc1Parent(t *testing.T) {
	b := good(api.BaseLayers)
	b.Layers[0].Parent = b.Layers[0].Id
	refuse(t, "its own parent", api.BaseLayers, b)
	b = good(api.BaseLayers)
	b.Layers[1].Parent = b.Layers[1].Id
	refuse(t, "its own parent, second", api.BaseLayers, b)
	for _, parent := range []string{"00000a", "000000", "ffffff"} {
		b = good(api.BaseLayers)
		b.Layers[1].Parent = parent // whether there is such a one is not this layer's concern
		accept(t, "parent", api.BaseLayers, b)
	}
	b = good(api.BaseLayers)
	b.Layers[0].Parent = "abcdef"
	accept(t, "each other's parent", api.BaseLayers, b)
	boxes, images := good(api.BaseBoxes), good(api.BaseImages)
	boxes.Boxes[0].Image, boxes.Boxes[0].Layer, images.Images[0].Top = "00000a", "00000a", "00000a"
	accept(t, "the id of another kind's record", api.BaseBoxes, boxes)
	accept(t, "the id of another kind's record", api.BaseImages, images)
}

func TestRc1Names(t *testing.T) {
	tryParts(t, names(), accepted, "b", "000000", ".", "-", "..", strings.Repeat("z", 32))
	tryParts(t, names(), refuse, "", "A", "a b", "b ", "\u00e9", "\xff", "b\"", "b\n", "a/b", strings.Repeat("b", 33), strings.Repeat("b", 1<<17))
	tryParts(t, names(), refuse, "web") // another one of its own, or the first record's
	for _, kind := range kinds {
		for first, ok := range map[string]bool{"": true, "b": true, "b c d e": true, "b c d e f": false, "b c d e f g h i": false, "b b": false, "b c b": false, "b c d b": false, "b c d d": false} {
			for i := range 2 {
				b := good(kind)
				setNames(&b, i, strings.Fields(strings.ReplaceAll(first, "b", "x")))
				if ok {
					accept(t, "names "+first, kind, b)
				} else {
					refuse(t, "names "+first, kind, b)
				}
			}
		}
		b := good(kind)
		setNames(&b, 1, []string{"q", "a"})
		refuse(t, "a name of two records", kind, b)
		setNames(&b, 0, []string{"z", "y"})
		setNames(&b, 1, []string{"c", "b"})
		accept(t, "names in no order", kind, b)
	}
}

func TestRc1Layers(t *testing.T) {
	for what, change := range map[string]struct {
		ok bool
		do func(l *api.Layer)
	}{
		"size 0":            {true, func(l *api.Layer) { l.Size = 0 }},
		"greatest size":     {true, func(l *api.Layer) { l.Size = 1 << 13 }},
		"size -1":           {false, func(l *api.Layer) { l.Size = -1 }},
		"greater size":      {false, func(l *api.Layer) { l.Size = 1<<13 + 1 }},
		"size MaxInt":       {false, func(l *api.Layer) { l.Size = api.MaxInt }},
		"least size":        {false, func(l *api.Layer) { l.Size = -api.MaxInt - 1 }},
		"blob 0":            {true, func(l *api.Layer) { l.Blob = 0 }},
		"greatest blob":     {true, func(l *api.Layer) { l.Blob = 32 }},
		"blob -1":           {false, func(l *api.Layer) { l.Blob = -1 }},
		"greater blob":      {false, func(l *api.Layer) { l.Blob = 33 }},
		"blob MaxInt":       {false, func(l *api.Layer) { l.Blob = api.MaxInt }},
		"least blob":        {false, func(l *api.Layer) { l.Blob = -api.MaxInt - 1 }},
		"not done":          {true, func(l *api.Layer) { l.Done = false }},
		"done":              {true, func(l *api.Layer) { l.Done = true }},
		"no digest":         {false, func(l *api.Layer) { l.Diff = "" }},
		"digest's word":     {false, func(l *api.Layer) { l.Diff = "sha256:" }},
		"long digest":       {false, func(l *api.Layer) { l.Diff += "0" }},
		"short digest":      {false, func(l *api.Layer) { l.Diff = l.Diff[:70] }},
		"capital digest":    {false, func(l *api.Layer) { l.Diff = "sha256:" + strings.ToUpper(l.Diff[7:]) }},
		"other digest word": {false, func(l *api.Layer) { l.Diff = "sha255:" + l.Diff[7:] }},
		"unknown digest":    {true, func(l *api.Layer) { l.Diff = "sha256:" + strings.Repeat("0", 64) }},
	} {
		for i := range 2 {
			b := good(api.BaseLayers)
			change.do(&b.Layers[i])
			if change.ok {
				accept(t, what, api.BaseLayers, b)
			} else {
				refuse(t, what, api.BaseLayers, b)
			}
		}
	}
}

func TestRc1Datas(t *testing.T) {
	all := make([]byte, 256)
	for i := range all {
		all[i] = byte(i)
	}
	for at := 0; at < 256; at += 64 {
		tryParts(t, datas(), accepted, string(all[at:at+64]))
	}
	tryParts(t, datas(), accepted, "", "\x00", "\"", "\\", "\u00e9", strings.Repeat("\xff", 63))
	tryParts(t, datas(), refuse, strings.Repeat("\x00", 65), strings.Repeat("a", 128), strings.Repeat("a", 1<<17))
}

func TestRc1Items(t *testing.T) {
	one := func(change func(i *api.Item)) []api.Item {
		i := item("k", "v")
		change(&i)
		return []api.Item{i}
	}
	var five []api.Item
	for _, key := range []string{"-", ".", "0", "_", "a"} {
		five = append(five, item(key, key))
	}
	for what, try := range map[string]struct {
		ok    bool
		items []api.Item
	}{
		"none":                {true, nil},
		"one":                 {true, one(func(*api.Item) {})},
		"four":                {true, five[:4]},
		"four others":         {true, five[1:]},
		"five":                {false, five},
		"many":                {false, append(append([]api.Item{}, five...), item("b", ""), item("c", ""), item("d", ""))},
		"the same data":       {true, []api.Item{item("a", "x"), item("aa", "x")}},
		"keys twice":          {false, []api.Item{item("a", "x"), item("a", "x")}},
		"keys twice at last":  {false, []api.Item{item("a", "x"), item("b", "x"), item("b", "y")}},
		"decreasing":          {false, []api.Item{item("b", ""), item("a", "")}},
		"decreasing at last":  {false, []api.Item{item("a", ""), item("b", ""), item("aa", "")}},
		"longest key":         {true, one(func(i *api.Item) { i.Key = strings.Repeat("k", 32) })},
		"longer key":          {false, one(func(i *api.Item) { i.Key = strings.Repeat("k", 33) })},
		"no key":              {false, one(func(i *api.Item) { i.Key = "" })},
		"capital key":         {false, one(func(i *api.Item) { i.Key = "K" })},
		"no digest":           {false, one(func(i *api.Item) { i.Digest = "" })},
		"another one's":       {false, one(func(i *api.Item) { i.Digest = digest.Of("w") })},
		"other data":          {false, one(func(i *api.Item) { i.Data = "w" })},
		"capital digest":      {false, one(func(i *api.Item) { i.Digest = strings.ToUpper(i.Digest) })},
		"digest of the key":   {false, one(func(i *api.Item) { i.Digest = digest.Of(i.Key) })},
		"nothing at all":      {false, []api.Item{{}}},
		"the second one's":    {false, append(one(func(*api.Item) {}), api.Item{Key: "l", Digest: digest.Of("v")})},
		"key of a name twice": {true, []api.Item{item("a", ""), item("web", "")}},
	} {
		for _, kind := range []int{api.BaseBoxes, api.BaseImages} {
			b := good(kind)
			setItems(&b, try.items)
			if try.ok {
				accept(t, what, kind, b)
			} else {
				refuse(t, what, kind, b)
			}
		}
	}
}

// greatest is the database with as many records as may be, and one more if it is to have one; all of their texts are as long as they may be.
func greatest(kind int, more int) api.Base {
	b := api.Base{Gen: maxCount}
	for i := range api.MaxRecords + more {
		id := fmt.Sprintf("%06x", 0xabcd00+i)
		var names []string
		var items []api.Item
		for j := range 4 {
			names = append(names, fmt.Sprintf("%s%02d%d", strings.Repeat("n", 29), i, j))
			items = append(items, item(strings.Repeat("k", 31)+fmt.Sprint(j), strings.Repeat("d", 64)))
		}
		switch kind {
		case api.BaseBoxes:
			b.Boxes = append(b.Boxes, api.Box{Id: id, Names: names, Image: id, Layer: id, Meta: strings.Repeat("m", 64), Items: items})
		case api.BaseImages:
			b.Images = append(b.Images, api.Image{Id: id, Names: names, Top: id, Meta: strings.Repeat("m", 64), Items: items})
		default:
			b.Layers = append(b.Layers, api.Layer{Id: id, Parent: "000000", Names: names, Diff: digest.Of(id), Size: api.MaxData, Blob: api.MaxRecords})
		}
	}
	return b
}

func TestRc1Records(t *testing.T) {
	for _, kind := range kinds {
		if s := accept(t, "greatest", kind, greatest(kind, 0)); len(s) > api.MaxText {
			t.Errorf("kind %d: %d bytes", kind, len(s))
		}
		refuse(t, "one more record", kind, greatest(kind, 1))
		refuse(t, "many more records", kind, greatest(kind, 32))
		for _, i := range []int{0, 15, 30} {
			b := greatest(kind, 0)
			b.Boxes, b.Images, b.Layers = swapped(b.Boxes, i), swapped(b.Images, i), swapped(b.Layers, i)
			refuse(t, "records in another order", kind, b)
			b = greatest(kind, 0)
			b.Boxes, b.Images, b.Layers = doubled(b.Boxes, i), doubled(b.Images, i), doubled(b.Layers, i)
			setNames(&b, i+1, nil)
			refuse(t, "an id twice", kind, b)
		}
		b := greatest(kind, 0)
		setNames(&b, 31, []string{strings.Repeat("n", 29) + "000"})
		refuse(t, "a name of the first and the last record", kind, b)
	}
}

func swapped[T any](l []T, i int) []T {
	if len(l) > 0 {
		l[i], l[i+1] = l[i+1], l[i]
	}
	return l
}

func doubled[T any](l []T, i int) []T {
	if len(l) > 0 {
		l[i+1] = l[i]
	}
	return l
}

func TestRc1Random(t *testing.T) {
	r := rand.New(rand.NewSource(61))
	for range 600 {
		for _, kind := range kinds {
			accept(t, "random", kind, some(r, kind, 6))
		}
	}
	for range 10 {
		for _, kind := range kinds {
			accept(t, "random", kind, some(r, kind, api.MaxRecords))
		}
	}
}
