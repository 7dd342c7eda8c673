package json

import (
	"iter"

	"cooperage/api"
)

// endless is the depth of a value that is in itself: no number is greater.
const endless = api.MaxInt

// Depth is how deep a value is.
func Depth(v api.Value) int {
	return walk(&v, func(*api.Value) {})
}

// walk visits a value and all that is in it, and is its depth. Values may be deeper than calls may be, may share their lists, and may be in themselves: so those that wait are on a stack, one that has others in it is visited once wherever it is, and the walk stops at one that is in itself.
func walk(top *api.Value, visit func(v *api.Value)) int {
	depths := map[*api.Value]int{} // 0 until all that is in the value was visited
	waiting := []*api.Value{top}
	for len(waiting) > 0 {
		last := len(waiting) - 1
		value := waiting[last]
		if depth, met := depths[value]; met {
			waiting = waiting[:last]
			if depth == 0 {
				depths[value] = depthAround(value, depths)
			}
			continue
		}
		visit(value)
		depths[value] = 0
		for inner := range innerOf(value) {
			depth, met := depths[inner]
			switch {
			case isSingle(inner):
				visit(inner)
			case !met:
				waiting = append(waiting, inner)
			case depth == 0:
				return endless
			}
		}
	}
	return depths[top]
}

// depthAround is a value's depth, where those of the values in it are known, but for the single ones.
func depthAround(v *api.Value, depths map[*api.Value]int) int {
	greatest := 0
	for inner := range innerOf(v) {
		greatest = max(greatest, depths[inner], 1)
	}
	return greatest + 1
}

// innerOf goes through the values that stand in a value itself.
func innerOf(v *api.Value) iter.Seq[*api.Value] {
	return func(yield func(*api.Value) bool) {
		for i := range v.List {
			if !yield(&v.List[i]) {
				return
			}
		}
		for i := range v.Fields {
			if !yield(&v.Fields[i].Value) {
				return
			}
		}
	}
}

// isSingle tells whether no others are in a value.
func isSingle(v *api.Value) bool { return len(v.List) == 0 && len(v.Fields) == 0 }
