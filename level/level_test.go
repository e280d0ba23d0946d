package level_test

import (
	"math"
	"math/rand"
	"reflect"
	"slices"
	"testing"

	"courant/api"
	"courant/canon"
	"courant/check"
	"courant/level"
	"courant/schema"
)

// parsed is the schema of a text; it is right.
func parsed(t *testing.T, text string) api.Schema {
	t.Helper()
	s, fault := schema.Parse(text)
	if fault != api.OK || !canon.Right(s) {
		t.Fatalf("the schema %s: error %d, or not right", text, fault)
	}
	return s
}

// record is the text of one with these fields.
func record(fields string) string { return `{"type":"record","name":"r","fields":[` + fields + `]}` }

// rightLevels are all levels that there are, wrongLevels some that there are not.
var (
	rightLevels = []int{api.LevelNone, api.LevelBackward, api.LevelForward, api.LevelFull, api.LevelBackwardAll, api.LevelForwardAll, api.LevelFullAll}
	wrongLevels = []int{-1, -2, -6, 7, 8, 9, 256, 257, 1 << 32, 1<<32 + 1, math.MinInt, math.MinInt + 1, math.MaxInt}
)

// hold holds First, and May with it, against the place that is wanted, of a right level.
func hold(t *testing.T, n int, old []api.Schema, s api.Schema, want int, what string) {
	t.Helper()
	if at := level.First(n, old, s); at != want {
		t.Errorf("P13.1: First of the level %d, %s: %d; want %d", n, what, at, want)
	}
	if is := level.May(n, old, s); is != (want == -1) {
		t.Errorf("P13.1: May of the level %d, %s: %v", n, what, is)
	}
}

func TestRight(t *testing.T) {
	for at, n := range rightLevels {
		if n != at || !level.Right(n) {
			t.Errorf("P13.1: the level %d is not right", n)
		}
	}
	for _, n := range wrongLevels {
		if level.Right(n) {
			t.Errorf("P13.1: the level %d is right", n)
		}
	}
}

// TestWrongLevels: nothing may be of a level that is not right, without any schema ahead, too; but none of them speaks against it.
func TestWrongLevels(t *testing.T) {
	i, l, text := parsed(t, `"int"`), parsed(t, `"long"`), parsed(t, `"string"`)
	for _, n := range wrongLevels {
		for at, old := range [][]api.Schema{nil, {}, {i}, {l}, {text}, {i, i}, {text, text}, {{}}} {
			if level.May(n, old, i) || level.First(n, old, i) != -1 {
				t.Errorf("P13.1: the level %d, the row %d: %v, %d", n, at, level.May(n, old, i), level.First(n, old, i))
			}
		}
	}
}

// TestNone: without any schema ahead whatever is right may be, also what has no nodes.
func TestNone(t *testing.T) {
	for _, n := range rightLevels {
		for _, s := range []api.Schema{parsed(t, `"int"`), parsed(t, record(`{"name":"x","type":"r"}`)), {}, {Nodes: []api.Node{{}}}} {
			hold(t, n, nil, s, -1, "no list")
			hold(t, n, []api.Schema{}, s, -1, "an empty list")
			hold(t, n, []api.Schema{parsed(t, `"null"`), s}[:0], s, -1, "an empty list with room behind it")
		}
	}
}

func TestExamples(t *testing.T) {
	i, l, text := parsed(t, `"int"`), parsed(t, `"long"`), parsed(t, `"string"`)
	b := parsed(t, `"bytes"`)
	for at, x := range []struct {
		n     int
		old   []api.Schema
		s     api.Schema
		first int
	}{
		{api.LevelBackward, []api.Schema{i}, l, -1}, {api.LevelForward, []api.Schema{i}, l, 0}, {api.LevelFull, []api.Schema{i}, l, 0}, {api.LevelFull, []api.Schema{i}, i, -1},
		{api.LevelBackward, []api.Schema{l}, i, 0}, {api.LevelForward, []api.Schema{l}, i, -1}, {api.LevelFull, []api.Schema{l}, i, 0}, {api.LevelNone, []api.Schema{l, text}, i, -1},
		// The place is that of the last one, where it alone is asked.
		{api.LevelBackward, []api.Schema{i, b, l}, i, 2}, {api.LevelForward, []api.Schema{l, l, l, i}, l, 3}, {api.LevelFull, []api.Schema{b, text}, b, 1}, {api.LevelBackward, []api.Schema{b, text}, b, -1},
		// Of all, the first one.
		{api.LevelBackwardAll, []api.Schema{i, b, l}, l, 1}, {api.LevelForwardAll, []api.Schema{l, l, i, b}, l, 2}, {api.LevelFullAll, []api.Schema{l, b, i}, l, 1}, {api.LevelBackwardAll, []api.Schema{text, b, text}, b, -1}, {api.LevelForwardAll, []api.Schema{text, b, text}, text, -1}, {api.LevelFullAll, []api.Schema{text, b, text}, b, 0}, {api.LevelFullAll, []api.Schema{b, text, b}, b, 1},
		// Records, enums, unions: the new one reads, or is read.
		{api.LevelBackward, []api.Schema{parsed(t, record(""))}, parsed(t, record(`{"name":"x","type":"int","default":1}`)), -1}, {api.LevelBackward, []api.Schema{parsed(t, record(""))}, parsed(t, record(`{"name":"x","type":"int"}`)), 0}, {api.LevelForward, []api.Schema{parsed(t, record(""))}, parsed(t, record(`{"name":"x","type":"int"}`)), -1}, {api.LevelForward, []api.Schema{parsed(t, record(`{"name":"x","type":"int"}`))}, parsed(t, record("")), 0},
		{api.LevelBackward, []api.Schema{parsed(t, `{"type":"enum","name":"e","symbols":["A"]}`)}, parsed(t, `{"type":"enum","name":"e","symbols":["B","A"]}`), -1}, {api.LevelForward, []api.Schema{parsed(t, `{"type":"enum","name":"e","symbols":["A"]}`)}, parsed(t, `{"type":"enum","name":"e","symbols":["B","A"]}`), 0},
		{api.LevelBackward, []api.Schema{i}, parsed(t, `["null","int"]`), -1}, {api.LevelFull, []api.Schema{i}, parsed(t, `["null","int"]`), 0}, {api.LevelFull, []api.Schema{parsed(t, `["int"]`)}, i, -1},
	} {
		if got, is := level.First(x.n, x.old, x.s), level.May(x.n, x.old, x.s); got != x.first || is != (x.first == -1) {
			t.Errorf("P13.1: the row %d: %d, %v; want %d", at, got, is, x.first)
		}
	}
}

// family is a schema, and ones ahead of it: e is read by it and reads it, b is but read by it, f but reads it, n neither.
type family struct{ s, e, b, f, n string }

// families are such ones of different kinds.
var families = []family{
	{`["long"]`, `"long"`, `"int"`, `["null","long"]`, `"string"`},
	{record(`{"name":"x","type":"long"}`), record(`{"name":"x","type":["long"],"default":2}`), record(`{"name":"x","type":"int"}`), record(`{"name":"y","type":["null","r"],"default":null},{"name":"z","aliases":["x"],"type":"long"}`), record(`{"name":"y","type":"long"}`)},
	{`{"type":"enum","name":"a.e","symbols":["A","B"]}`, `{"type":"enum","name":"b.e","symbols":["B","A"]}`, `{"type":"enum","name":"e","symbols":["B"]}`, `{"type":"enum","name":"e","symbols":["A","B","C"]}`, `{"type":"enum","name":"e","symbols":["B","C"]}`},
	{`{"type":"map","values":"bytes"}`, `{"type":"map","values":["bytes"]}`, `{"type":"map","values":"string"}`, `["int",{"type":"map","values":"bytes"}]`, `{"type":"array","items":"bytes"}`},
}

// wanted is the place that is wanted of schemas ahead of which these letters tell what they are to the new one.
func wanted(n int, letters string) int {
	against := map[int]string{api.LevelBackward: "fn", api.LevelForward: "bn", api.LevelFull: "bfn", api.LevelBackwardAll: "fn", api.LevelForwardAll: "bn", api.LevelFullAll: "bfn"}[n]
	for at := range letters {
		if n < api.LevelBackwardAll && at != len(letters)-1 {
			continue
		}
		if slices.Contains([]byte(against), letters[at]) {
			return at
		}
	}
	return -1
}

// TestLetters holds all levels against all lists of up to five schemas that read the new one, are read by it, do both, or neither.
func TestLetters(t *testing.T) {
	for _, f := range families {
		s := parsed(t, f.s)
		ahead := map[rune]api.Schema{'e': parsed(t, f.e), 'b': parsed(t, f.b), 'f': parsed(t, f.f), 'n': parsed(t, f.n)}
		lists := []string{""}
		for at := 0; at < len(lists); at++ {
			var old []api.Schema
			for _, letter := range lists[at] {
				old = append(old, ahead[letter])
			}
			for _, n := range rightLevels {
				hold(t, n, old, s, wanted(n, lists[at]), f.s+" behind "+lists[at])
			}
			if t.Failed() { // what is wrong of one list is wrong of very many
				return
			}
			if len(lists[at]) < 5 {
				lists = append(lists, lists[at]+"e", lists[at]+"b", lists[at]+"f", lists[at]+"n")
			}
		}
		if len(lists) != 1365 {
			t.Errorf("%d lists", len(lists))
		}
	}
}

// pool is schemas, right ones, and ones that say odd things.
func pool(t *testing.T) []api.Schema {
	out := []api.Schema{{}, {Nodes: []api.Node{{}}}, {Nodes: []api.Node{{Kind: 99}}}, {Nodes: []api.Node{{Kind: api.Array}}}, {Nodes: []api.Node{{Kind: api.Map, Items: -1}}}, {Nodes: []api.Node{{Kind: api.Union, Branches: []int{0, math.MaxInt}}}}, {Nodes: []api.Node{{Kind: api.Record, Fields: []api.Field{{Type: math.MinInt}}}}}}
	for _, f := range families {
		for _, text := range []string{f.s, f.e, f.b, f.f, f.n} {
			out = append(out, parsed(t, text))
		}
	}
	return append(out, parsed(t, record(`{"name":"x","type":"r"}`)), parsed(t, record(`{"name":"x","type":["null","r"]}`)), parsed(t, record(`{"name":"x","type":"null"}`)))
}

// second is First once more, in another form: each one is asked, from the last one on.
func second(n int, old []api.Schema, s api.Schema) int {
	first := -1
	for at := len(old) - 1; at >= 0; at-- {
		bits := []int{0, 1, 2, 3, 1, 2, 3}[n]
		against := bits&1 > 0 && !check.Reads(old[at], s) || bits&2 > 0 && !check.Reads(s, old[at])
		if against {
			first = at
		}
		if n < 4 {
			break
		}
	}
	return first
}

// TestByChance holds First and May against the second form, and levels of all against those of the last one ('What follows').
func TestByChance(t *testing.T) {
	c, schemas := rand.New(rand.NewSource(13)), pool(t)
	some := func() api.Schema { return schemas[c.Intn(len(schemas))] }
	seen := map[bool]int{}
	for range 20000 {
		s, old := some(), make([]api.Schema, c.Intn(api.MaxVersions+1))
		for at := range old {
			if old[at] = some(); c.Intn(3) > 0 { // so that lists that do not speak against it are there, too
				old[at] = s
			}
		}
		for _, n := range rightLevels {
			want := second(n, old, s)
			hold(t, n, old, s, want, "by chance")
			if n > api.LevelForward {
				seen[want < 0]++
			}
		}
		for _, n := range []int{api.LevelBackward, api.LevelForward, api.LevelFull} {
			if all := n + api.LevelBackwardAll - api.LevelBackward; level.May(all, old, s) && !level.May(n, old, s) {
				t.Errorf("What follows: the level %d lets what %d refuses", all, n)
			}
		}
		for _, n := range []int{api.LevelFull, api.LevelFullAll} {
			if level.May(n, old, s) != (level.May(n-2, old, s) && level.May(n-1, old, s)) {
				t.Errorf("P13.1: the level %d is not both, %d and %d", n, n-2, n-1)
			}
		}
		if t.Failed() {
			return
		}
	}
	if seen[true] < 10000 || seen[false] < 10000 {
		t.Errorf("too few of what is looked for: %v", seen)
	}
}

// TestOdd: a schema without nodes is read by none, and reads none; one without a value is read by all that has nodes.
func TestOdd(t *testing.T) {
	i, dead := parsed(t, `"int"`), parsed(t, record(`{"name":"x","type":"r"}`))
	for _, n := range rightLevels[1:] {
		hold(t, n, []api.Schema{{}}, i, 0, "no nodes ahead")
		hold(t, n, []api.Schema{i}, api.Schema{}, 0, "no nodes")
		hold(t, n, []api.Schema{{}}, api.Schema{}, 0, "no nodes at all")
	}
	hold(t, api.LevelNone, []api.Schema{{}, i}, api.Schema{}, -1, "no nodes")
	hold(t, api.LevelBackward, []api.Schema{i, dead}, i, -1, "no value ahead")
	hold(t, api.LevelForward, []api.Schema{i, dead}, i, 1, "no value ahead")
	hold(t, api.LevelForwardAll, []api.Schema{i, i}, dead, -1, "no value")
	hold(t, api.LevelBackwardAll, []api.Schema{dead, i}, dead, 1, "no value")
}

// TestMany: each of a long list is asked, up to its end.
func TestMany(t *testing.T) {
	i, text := parsed(t, `"int"`), parsed(t, `"string"`)
	for _, size := range []int{1, 2, api.MaxVersions, 1000} {
		for _, wrong := range []int{0, size / 2, size - 2, size - 1} {
			old := slices.Repeat([]api.Schema{i}, size)
			old[max(0, wrong)] = text
			for _, n := range rightLevels[1:] {
				want := max(0, wrong)
				if n < api.LevelBackwardAll && want != size-1 {
					want = -1
				}
				hold(t, n, old, i, want, "a long list")
			}
		}
	}
}

// TestNothingChanged: what is handed in stays, with the room behind its ends, which plays no part (R3); answers hang on it alone (R2).
func TestNothingChanged(t *testing.T) {
	build := func() ([]api.Schema, api.Schema) {
		nodes := func() []api.Node {
			return []api.Node{{Kind: api.Union, Branches: []int{1, 2, 9}[:2]}, {Kind: api.Null}, {Kind: api.Record, Name: "r", Aliases: []string{"q", "z"}[:1], Fields: []api.Field{{Name: "x", Type: 1}, {Name: "y"}}[:1]}, {Kind: api.String}}
		}
		return []api.Schema{{Nodes: nodes()[:3]}, {Nodes: nodes()[:3]}, {Nodes: []api.Node{{Kind: api.Int}}}}, api.Schema{Nodes: nodes()[:3]}
	}
	whole := func(old []api.Schema, s api.Schema) (out []any) {
		for _, x := range append(slices.Clone(old), s) {
			out = append(out, x.Nodes[:cap(x.Nodes)])
			for _, n := range x.Nodes[:cap(x.Nodes)] {
				out = append(out, n.Aliases[:cap(n.Aliases)], n.Branches[:cap(n.Branches)], n.Fields[:cap(n.Fields)])
			}
		}
		return out
	}
	old, s := build()
	for range 3 {
		for _, n := range append(slices.Clone(rightLevels), wrongLevels...) {
			if level.First(n, old[:2], s) != -1 || level.May(n, old[:2], s) != level.Right(n) {
				t.Errorf("P13.1: the level %d: what stands behind the list's end plays a part", n)
			}
		}
		level.First(api.LevelFullAll, old, s)
	}
	if !reflect.DeepEqual(whole(old, s), whole(build())) {
		t.Error("R3: what was handed in is changed")
	}
}
