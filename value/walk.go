package value

import (
	"courant/api"
	"iter"
	"math"
	"slices"
)

// Bytes that a value takes itself, and that a key takes, beside what they point to.
const (
	valueSize = 88
	keySize   = 16
)

// Walk tells v and all within it, each with its depth, and with memory of its own.
func Walk(v api.Value) iter.Seq2[int, api.Value] {
	own := clone(v)
	return func(yield func(int, api.Value) bool) {
		whole, hand := own, clone
		if tooMuch(own) {
			// Whole copies of all that is nested so deep would be work that grows with the square
			// of it, beyond what any promise is held for. One for this walk keeps own as it is.
			whole, hand = clone(own), cloneTop
		}
		for depth, x := range each(whole) {
			if !yield(depth, hand(x)) {
				return
			}
		}
	}
}

// tooMuch tells whether v and all within it, each of them whole, are more bytes than may be answered in all.
func tooMuch(v api.Value) bool {
	room := math.MaxInt32
	for depth, x := range each(v) {
		// It is told once for itself, and once within each that it stands in.
		for _, size := range [...]int{valueSize, len(x.B), keySize * len(x.Keys)} {
			if size > room/depth {
				return true
			}
			room -= size * depth
		}
	}
	return false
}

// clone is v in new memory. Lists wait their turn instead of calls, as a value may be nested deeper than calls may.
func clone(v api.Value) api.Value {
	v = cloneTop(v)
	lists := [][]api.Value{v.L}
	for len(lists) > 0 {
		last := len(lists) - 1
		list := lists[last]
		lists = lists[:last]
		for i, x := range list {
			list[i] = cloneTop(x)
			if len(x.L) > 0 {
				lists = append(lists, list[i].L)
			}
		}
	}
	return v
}

// cloneTop is v with its bytes and lists in new memory, but not what the values of its list have.
func cloneTop(v api.Value) api.Value {
	v.B, v.L, v.Keys = slices.Clone(v.B), slices.Clone(v.L), slices.Clone(v.Keys)
	return v
}
