package record

import (
	"slices"
	"strings"

	"cooperage/api"
	"cooperage/digest"
	"cooperage/digits"
	"cooperage/quote"
)

const (
	maxCount  = 1 << 53
	maxMoves  = 16
	nameBytes = "abcdefghijklmnopqrstuvwxyz0123456789._-"
)

// IsId tells whether a text is an id.
func IsId(s string) bool {
	if len(s) != api.IdDigits { // ahead of Unhex, so that a long text is not copied
		return false
	}
	_, ok := digits.Unhex(s)
	return ok
}

// IsName tells whether a text is a name.
func IsName(s string) bool {
	return s != "" && len(s) <= api.MaxName && strings.TrimLeft(s, nameBytes) == ""
}

// isKind tells whether there are databases of a kind.
func isKind(kind int) bool { return kind >= api.BaseBoxes && kind <= api.BaseLayers }

// isBase tells whether a database may be, of a kind: it has no records then that are of others.
func isBase(kind int, b api.Base) bool {
	if !isKind(kind) || !isCount(b.Gen) {
		return false
	}
	return (kind == api.BaseBoxes || len(b.Boxes) == 0) && areRecords(b.Boxes, namedBox, isBox) &&
		(kind == api.BaseImages || len(b.Images) == 0) && areRecords(b.Images, namedImage, isImage) &&
		(kind == api.BaseLayers || len(b.Layers) == 0) && areRecords(b.Layers, namedLayer, isLayer)
}

// areRecords tells whether records may be together in a database.
func areRecords[R any](l []R, named func(R) api.Named, isValid func(R) bool) bool {
	if len(l) > api.MaxRecords {
		return false
	}
	var names []string
	for _, record := range l {
		own := named(record)
		if !IsId(own.Id) || !areNames(own.Names) || !isValid(record) {
			return false
		}
		names = append(names, own.Names...)
	}
	return areUnlike(names) && isIncreasing(l, func(record R) string { return named(record).Id })
}

func namedBox(b api.Box) api.Named     { return api.Named{Id: b.Id, Names: b.Names} }
func namedImage(i api.Image) api.Named { return api.Named{Id: i.Id, Names: i.Names} }
func namedLayer(l api.Layer) api.Named { return api.Named{Id: l.Id, Names: l.Names} }

// areNames tells whether a record may have names, if they are unlike each other: that is asked of a whole database's names at once.
func areNames(l []string) bool {
	return len(l) <= api.MaxNames && !slices.ContainsFunc(l, func(name string) bool { return !IsName(name) })
}

// areUnlike tells whether no text is there twice.
func areUnlike(l []string) bool {
	sorted := slices.Sorted(slices.Values(l))
	return len(slices.Compact(sorted)) == len(l)
}

// isIncreasing tells whether each key is greater than the one ahead of it.
func isIncreasing[T any](l []T, key func(T) string) bool {
	for i := 1; i < len(l); i++ {
		if key(l[i-1]) >= key(l[i]) {
			return false
		}
	}
	return true
}

// isBox tells whether a container may be, as far as it hangs neither on its id nor on its names. The same goes for an image, and for a layer.
func isBox(b api.Box) bool {
	return isIdOrNone(b.Image) && IsId(b.Layer) && isMeta(b.Meta) && areItems(b.Items)
}

func isImage(i api.Image) bool {
	return isIdOrNone(i.Top) && isMeta(i.Meta) && areItems(i.Items)
}

func isLayer(l api.Layer) bool {
	return isIdOrNone(l.Parent) && l.Parent != l.Id && digest.Check(l.Diff) == api.OK &&
		isWithin(l.Size, 0, api.MaxData) && isWithin(l.Blob, 0, api.MaxRecords)
}

// areItems tells whether items may be together in a record.
func areItems(l []api.Item) bool {
	return len(l) <= api.MaxItems && !slices.ContainsFunc(l, func(i api.Item) bool { return !isItem(i) }) &&
		isIncreasing(l, func(i api.Item) string { return i.Key })
}

// isItem tells whether an item may be.
func isItem(i api.Item) bool { return IsName(i.Key) && isMeta(i.Data) && digest.Is(i.Digest, i.Data) }

// isMeta tells whether bytes may be those of metadata, or of an item.
func isMeta(s string) bool { return len(s) <= api.MaxMeta }

// isIdOrNone tells whether a text is an id, or empty.
func isIdOrNone(s string) bool { return s == "" || IsId(s) }

// isCount tells whether a number is a count.
func isCount(n int) bool { return isWithin(n, 0, maxCount) }

// isWithin tells whether a number is from one to another.
func isWithin(n, least, greatest int) bool { return n >= least && n <= greatest }

// isClaim tells whether a claim may be.
func isClaim(c api.Claim) bool {
	return isWithin(c.Pid, 1, maxCount) && isWithin(c.Birth, 1, maxCount) && isCount(c.Stamp)
}

// areMoves tells whether files may be renamed so together.
func areMoves(l []api.Move) bool {
	return len(l) <= maxMoves && !slices.ContainsFunc(l, func(m api.Move) bool { return !isPath(m.From) || !isPath(m.To) })
}

// isPath tells whether a text may be the path of a file that is renamed.
func isPath(s string) bool { return isWithin(len(s), 1, api.MaxPath) && quote.Valid(s) }

// areMounts tells whether mounts may be together.
func areMounts(l []api.Mount) bool {
	return len(l) <= api.MaxRecords &&
		!slices.ContainsFunc(l, func(m api.Mount) bool { return !IsId(m.Id) || !isWithin(m.N, 1, maxCount) }) &&
		isIncreasing(l, func(m api.Mount) string { return m.Id })
}
