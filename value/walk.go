package value

import (
	"courant/api"
	"iter"
	"math"
	"slices"
)

// Bytes that a value takes itself, and that a key takes, beside what they point to.
const (
	valueSize = 88
	keySize   = 16
)

// Walk tells v and all within it, each with its depth, and with memory of its own.
func Walk(v api.Value) iter.Seq2[int, api.Value] {
	own := copied(v, measure(v))
	return func(yield func(int, api.Value) bool) {
		t := &teller{room: math.MaxInt32}
		// Behind the room's end what is told shares memory with what is gone through, so that is not own, which later walks tell.
		for depth, x := range each(copied(own, measure(own))) {
			if !yield(depth, t.tell(x)) {
				return
			}
		}
	}
}

// teller is how many bytes a walk may yet tell while promises hold. What is within a value is told once more within each that it stands in, so that of a value that is nested deep enough all copies would be beyond any bound.
type teller struct{ room int }

// tell is x with all within it in new memory, as long as there is room.
func (t *teller) tell(x api.Value) api.Value {
	if t.room <= 0 {
		return copiedTop(x)
	}
	m := measure(x)
	if t.room -= valueSize*m.values + m.octets + keySize*m.keys; t.room <= 0 {
		return copiedTop(x)
	}
	return copied(x, m)
}

// measures is how many values one is, with all within it, and how many bytes and keys those have.
type measures struct{ values, octets, keys int }

func (m *measures) add(v api.Value) {
	m.values++
	m.octets += len(v.B)
	m.keys += len(v.Keys)
}

// measure goes through lists that wait their turn instead of calls, as a value may be nested deeper than calls may.
func measure(v api.Value) measures {
	var m measures
	m.add(v)
	lists := [][]api.Value{v.L}
	for len(lists) > 0 {
		last := len(lists) - 1
		list := lists[last]
		lists = lists[:last]
		for _, x := range list {
			m.add(x)
			if len(x.L) > 0 {
				lists = append(lists, x.L)
			}
		}
	}
	return m
}

// copied is v, of those measures, in new memory: its lists side by side, without room behind their ends. That memory has its full size at once, so no list moves, and those that are there already wait their turn in it.
func copied(v api.Value, m measures) api.Value {
	lists, octets, words := make([]api.Value, 0, m.values), make([]byte, 0, m.octets), make([]string, 0, m.keys)
	lists = append(lists, v)
	for i := 0; i < len(lists); i++ {
		x := &lists[i]
		lists, x.L = extend(lists, x.L)
		octets, x.B = extend(octets, x.B)
		words, x.Keys = extend(words, x.Keys)
	}
	return lists[0]
}

// extend is list, and a copy of more that stands behind it.
func extend[T any](list, more []T) ([]T, []T) {
	if len(more) == 0 {
		return list, nil
	}
	from := len(list)
	list = append(list, more...)
	return list, list[from:len(list):len(list)]
}

// copiedTop is v with its bytes and lists in new memory, but not what the values of its list have.
func copiedTop(v api.Value) api.Value {
	v.B, v.L, v.Keys = slices.Clone(v.B), slices.Clone(v.L), slices.Clone(v.Keys)
	return v
}
