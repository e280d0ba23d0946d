package json

import (
	"courant/api"
	"iter"
	"math"
	"slices"
)

// Bytes that a value takes itself, and that a key takes, beside their texts, which no one can write into.
const (
	valueSize = 72
	keySize   = 16
)

// Walk tells v and all within it, each with its depth, and with memory of its own.
func Walk(v api.Json) iter.Seq2[int, api.Json] {
	own := clone(v)
	return func(yield func(int, api.Json) bool) {
		t := &teller{room: math.MaxInt32}
		// Behind the room's end what is told shares memory with what is gone through, so that is not own, which later walks tell.
		for depth, x := range each(clone(own)) {
			if !yield(depth, t.tell(x)) {
				return
			}
		}
	}
}

// teller is how many bytes a walk may yet tell while promises hold. What is within a value is told once more within each that it stands in, so that of a value that is nested deep enough all copies would be beyond any bound.
type teller struct{ room int }

// tell is x with all within it in new memory, as long as there is room.
func (t *teller) tell(x api.Json) api.Json {
	if t.room <= 0 {
		return cloneTop(x)
	}
	values, keys := count(x)
	if t.room -= valueSize*values + keySize*keys; t.room <= 0 {
		return cloneTop(x)
	}
	return copied(x, values, keys)
}

// each tells v and all within it as they lie. It keeps a list of its own of what is open, as a value may be nested deeper than calls may.
func each(v api.Json) iter.Seq2[int, api.Json] {
	return func(yield func(int, api.Json) bool) {
		open := [][]api.Json{{v}} // the rest of each list on the way to where it stands
		for len(open) > 0 {
			depth := len(open) - 1
			if len(open[depth]) == 0 {
				open = open[:depth]
				continue
			}
			x := open[depth][0]
			open[depth] = open[depth][1:]
			if !yield(depth, x) {
				return
			}
			open = append(open, x.L)
		}
	}
}

// clone is v in new memory.
func clone(v api.Json) api.Json {
	values, keys := count(v)
	return copied(v, values, keys)
}

// count is how many values and how many keys v is, with all within it. Lists wait their turn instead of calls, as a value may be nested deeper than calls may.
func count(v api.Json) (values, keys int) {
	values, keys = 1, len(v.Keys)
	lists := [][]api.Json{v.L}
	for len(lists) > 0 {
		last := len(lists) - 1
		list := lists[last]
		lists = lists[:last]
		values += len(list)
		for _, x := range list {
			keys += len(x.Keys)
			if len(x.L) > 0 {
				lists = append(lists, x.L)
			}
		}
	}
	return values, keys
}

// copied is v, of so many values and keys, in new memory: its lists side by side, without room behind their ends. That memory has its full size at once, so no list moves, and those that are there already wait their turn in it.
func copied(v api.Json, values, keys int) api.Json {
	lists, words := make([]api.Json, 0, values), make([]string, 0, keys)
	lists = append(lists, v)
	for i := 0; i < len(lists); i++ {
		x := &lists[i]
		lists, x.L = extend(lists, x.L)
		words, x.Keys = extend(words, x.Keys)
	}
	return lists[0]
}

// extend is list, and a copy of more that stands behind it.
func extend[T any](list, more []T) ([]T, []T) {
	if len(more) == 0 {
		return list, nil
	}
	from := len(list)
	list = append(list, more...)
	return list, list[from:len(list):len(list)]
}

// cloneTop is v with its lists in new memory, but not what is within those.
func cloneTop(v api.Json) api.Json {
	v.L, v.Keys = slices.Clone(v.L), slices.Clone(v.Keys)
	return v
}
