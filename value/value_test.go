package value_test

import (
	"bytes"
	"math"
	"slices"
	"strings"
	"testing"

	"courant/api"
	"courant/value"
)

func leaf(kind int, n int64) api.Value        { return api.Value{Kind: kind, N: n} }
func octets(kind int, s string) api.Value     { return api.Value{Kind: kind, B: []byte(s)} }
func list(kind int, l ...api.Value) api.Value { return api.Value{Kind: kind, L: l} }
func union(n int64, l ...api.Value) api.Value {
	return api.Value{Kind: api.Union, N: n, L: l}
}
func pairs(keys []string, l ...api.Value) api.Value {
	return api.Value{Kind: api.Map, Keys: keys, L: l}
}

// same is R9's: all fields, and the elements of lists one by one.
func same(a, b api.Value) bool {
	return a.Kind == b.Kind && a.N == b.N && bytes.Equal(a.B, b.B) && slices.Equal(a.Keys, b.Keys) && slices.EqualFunc(a.L, b.L, same)
}

// copied is v with the same room behind the ends of its lists as beside them, so that a change of that room is seen, too.
func copied(v api.Value) api.Value {
	v.B = append(slices.Clone(v.B), 0xee, 0xee)[:len(v.B)]
	v.Keys = append(slices.Clone(v.Keys), "behind")[:len(v.Keys)]
	l := make([]api.Value, len(v.L)+1)
	for i, x := range v.L {
		l[i] = copied(x)
	}
	l[len(v.L)] = leaf(77, 77)
	v.L = l[:len(v.L)]
	return v
}

// spoil writes over all lists of v, and over the room behind their ends.
func spoil(v api.Value) {
	for _, x := range v.L {
		spoil(x)
	}
	octets, list, keys := v.B[:cap(v.B)], v.L[:cap(v.L)], v.Keys[:cap(v.Keys)]
	for i := range octets {
		octets[i] = '#'
	}
	for i := range list {
		list[i] = leaf(99, 99)
	}
	for i := range keys {
		keys[i] = "#"
	}
}

// chain is v within as many arrays as make it n deep in all, v being 1 deep.
func chain(n int, v api.Value) api.Value {
	for range n - 1 {
		v = list(api.Array, v)
	}
	return v
}

// Places of kinds.
const (
	atNull = iota
	atBoolean
	atInt
	atLong
	atFloat
	atDouble
	atBytes
	atString
	atRecord
	atEnum
	atArray
	atMap
	atUnion
	atFixed
	atEmptyRecord
	atNoBytes
	atLost   // an array whose items are not there
	atBelow  // a map whose values are not there
	atWild   // a kind that there is not
	atZero   // no kind
	atFar    // a record, a field of which is not there
	atBroken // a union, branches of which are not there
	atHollow // a union without branches
	places
)

// kinds has a node of each kind (at its kind's number, less 1), and some that may not be.
func kinds() api.Schema {
	s := api.Schema{Nodes: make([]api.Node, places)}
	for kind := api.Null; kind <= api.Fixed; kind++ {
		s.Nodes[kind-1].Kind = kind
	}
	s.Nodes[atRecord].Fields = []api.Field{{Name: "a", Type: atInt}, {Name: "b", Type: atString}}
	s.Nodes[atEnum].Symbols = []string{"X", "Y", "Z"}
	s.Nodes[atArray].Items = atBoolean
	s.Nodes[atMap].Items = atUnion
	s.Nodes[atUnion].Branches = []int{atNull, atArray, atInt}
	s.Nodes[atFixed].Size = 3
	s.Nodes[atEmptyRecord] = api.Node{Kind: api.Record, Name: "e"}
	s.Nodes[atNoBytes] = api.Node{Kind: api.Fixed, Name: "n"}
	s.Nodes[atLost] = api.Node{Kind: api.Array, Items: places}
	s.Nodes[atBelow] = api.Node{Kind: api.Map, Items: -1}
	s.Nodes[atWild] = api.Node{Kind: 15}
	s.Nodes[atFar] = api.Node{Kind: api.Record, Name: "f", Fields: []api.Field{{Name: "a", Type: atInt}, {Name: "b", Type: math.MaxInt}}}
	s.Nodes[atBroken] = api.Node{Kind: api.Union, Branches: []int{atNull, places, math.MinInt}}
	s.Nodes[atHollow] = api.Node{Kind: api.Union}
	return s
}

func null() api.Value { return leaf(api.Null, 0) }

// fitting has values with the place of a node that they fit.
func fitting() map[int][]api.Value {
	truth := leaf(api.Boolean, 1)
	return map[int][]api.Value{
		atNull:        {null(), {Kind: api.Null, B: []byte{}, L: []api.Value{}, Keys: []string{}}},
		atBoolean:     {leaf(api.Boolean, 0), truth},
		atInt:         {leaf(api.Int, 0), leaf(api.Int, math.MinInt32), leaf(api.Int, math.MaxInt32)},
		atLong:        {leaf(api.Long, 0), leaf(api.Long, math.MinInt64), leaf(api.Long, math.MaxInt64)},
		atFloat:       {octets(api.Float, "\x00\x00\x00\x00"), octets(api.Float, "\xff\xff\xff\xff")},
		atDouble:      {octets(api.Double, "\x00\xff\x00\xff\x00\xff\x00\xff")},
		atBytes:       {octets(api.Bytes, ""), octets(api.Bytes, "\xff\x00"), octets(api.Bytes, strings.Repeat("a", 20000))},
		atString:      {octets(api.String, ""), octets(api.String, "\x00a\u00ff\u20ac\U0010ffff\ufffd"), octets(api.String, strings.Repeat("a", 20000))},
		atRecord:      {list(api.Record, leaf(api.Int, 5), octets(api.String, "x"))},
		atEnum:        {leaf(api.Enum, 0), leaf(api.Enum, 2)},
		atArray:       {list(api.Array), list(api.Array, truth), list(api.Array, truth, leaf(api.Boolean, 0), truth)},
		atMap:         {pairs(nil), pairs([]string{""}, union(0, null())), pairs([]string{"b", "a", "\u00e9", "A"}, union(2, leaf(api.Int, 1)), union(0, null()), union(1, list(api.Array, truth)), union(1, list(api.Array)))},
		atUnion:       {union(0, null()), union(1, list(api.Array, truth)), union(2, leaf(api.Int, -1))},
		atFixed:       {octets(api.Fixed, "\xff\x00a")},
		atEmptyRecord: {list(api.Record)},
		atNoBytes:     {octets(api.Fixed, "")},
		atLost:        {list(api.Array)}, // what is not there is not asked
		atBelow:       {pairs(nil)},
		atBroken:      {union(0, null())},
	}
}

func TestFitsRight(t *testing.T) {
	for at, values := range fitting() {
		for _, v := range values {
			if !value.Fits(kinds(), at, v) {
				t.Errorf("P4.1: %v does not fit node %d", v, at)
			}
		}
	}
}

func TestFitsWrong(t *testing.T) {
	truth, one, text := leaf(api.Boolean, 1), leaf(api.Int, 1), octets(api.String, "a")
	rows := map[int][]api.Value{
		atNull:        {leaf(api.Null, 1), {}, leaf(15, 0), leaf(-1, 0)},
		atBoolean:     {leaf(api.Boolean, 2), leaf(api.Boolean, -1), leaf(api.Boolean, 1<<32)},
		atInt:         {leaf(api.Int, math.MaxInt32+1), leaf(api.Int, math.MinInt32-1), leaf(api.Int, 1<<32), leaf(api.Int, math.MinInt64)},
		atFloat:       {octets(api.Float, ""), octets(api.Float, "abc"), octets(api.Float, "abcde"), octets(api.Float, "abcdefgh")},
		atDouble:      {octets(api.Double, ""), octets(api.Double, "abcd"), octets(api.Double, "abcdefg"), octets(api.Double, "abcdefghi")},
		atString:      {octets(api.String, "\xff"), octets(api.String, "a\xc3"), octets(api.String, "\xed\xa0\x80"), octets(api.String, "\xc0\x80")},
		atFixed:       {octets(api.Fixed, ""), octets(api.Fixed, "ab"), octets(api.Fixed, "abcd")},
		atNoBytes:     {octets(api.Fixed, "a")},
		atEnum:        {leaf(api.Enum, 3), leaf(api.Enum, -1), leaf(api.Enum, 1<<32), leaf(api.Enum, math.MinInt64)},
		atRecord:      {list(api.Record), list(api.Record, one), list(api.Record, one, text, one), list(api.Record, text, one), list(api.Record, leaf(api.Int, 1<<31), text), list(api.Record, one, octets(api.String, "\xff"))},
		atEmptyRecord: {list(api.Record, one)},
		atArray:       {list(api.Array, one), list(api.Array, truth, truth, leaf(api.Boolean, 2)), list(api.Array, list(api.Array))},
		atMap: {
			pairs([]string{"a"}), pairs(nil, union(0, null())), pairs([]string{"a", "b"}, union(0, null())), pairs([]string{"a"}, union(0, null()), union(0, null())),
			pairs([]string{"a", "a"}, union(0, null()), union(0, null())), pairs([]string{"a", "b", "a"}, union(0, null()), union(0, null()), union(0, null())), pairs([]string{"", ""}, union(0, null()), union(0, null())),
			pairs([]string{"\xff"}, union(0, null())), pairs([]string{"a", "b\xff"}, union(0, null()), union(0, null())), pairs([]string{"a"}, null()), pairs([]string{"a", "b"}, union(0, null()), union(0, one)),
		},
		atUnion:  {union(0), union(0, null(), null()), union(0, one), union(1, null()), union(3, null()), union(-1, null()), union(1<<32, null()), null(), list(api.Array, truth), union(1, list(api.Array, one))},
		atLost:   {list(api.Array, null()), list(api.Array, one, one)},
		atBelow:  {pairs([]string{"a"}, null())},
		atWild:   {leaf(15, 0), null(), {}},
		atZero:   {{}, null(), leaf(0, 0)},
		atFar:    {list(api.Record, one, text), list(api.Record, one, null())},
		atBroken: {union(1, null()), union(2, null()), union(3, null())},
		atHollow: {union(0, null()), union(0), union(-1, null())},
	}
	for at, values := range rows {
		for _, v := range values {
			if value.Fits(kinds(), at, v) {
				t.Errorf("P4.1: %v fits node %d", v, at)
			}
		}
	}
}

// TestFitsBare: what the words of a kind do not name has to be zero, and the kind has to be the node's.
func TestFitsBare(t *testing.T) {
	turns := map[string]func(v *api.Value){
		"N": func(v *api.Value) { v.N = 1 },
		"B": func(v *api.Value) { v.B = []byte{0} },
		"L": func(v *api.Value) { v.L = []api.Value{null()} },
		"K": func(v *api.Value) { v.Keys = []string{"k"} },
	}
	has := map[int]string{api.Null: "", api.Boolean: "N", api.Int: "N", api.Long: "N", api.Float: "B", api.Double: "B", api.Bytes: "B", api.String: "B", api.Record: "L", api.Enum: "N", api.Array: "L", api.Map: "LK", api.Union: "NL", api.Fixed: "B"}
	for at, values := range fitting() {
		for _, v := range values {
			for name, turn := range turns {
				turned := v
				turn(&turned)
				if !strings.Contains(has[v.Kind], name) && value.Fits(kinds(), at, turned) {
					t.Errorf("P4.1: %v fits node %d, though it has %s", turned, at, name)
				}
			}
			for kind := -1; kind <= 16; kind++ {
				turned := v
				turned.Kind = kind
				if kind != v.Kind && value.Fits(kinds(), at, turned) {
					t.Errorf("P4.1: %v fits node %d, though it is of another kind", turned, at)
				}
			}
		}
	}
}

func TestFitsNoNode(t *testing.T) {
	for _, at := range []int{-1, places, math.MinInt, math.MaxInt} {
		for _, v := range []api.Value{null(), {}, list(api.Array)} {
			if value.Fits(kinds(), at, v) || value.Fits(api.Schema{}, at, v) || value.Fits(api.Schema{}, 0, v) {
				t.Errorf("P4.1: %v fits node %d, which is not there", v, at)
			}
		}
	}
}

// TestFitsDeep: a value may be deeper than MaxDepth, have more values than MaxItems, and be nested deeper than calls may be.
func TestFitsDeep(t *testing.T) {
	s := api.Schema{Nodes: []api.Node{{Kind: api.Array, Items: 1}, {Kind: api.Union, Branches: []int{2, 0}}, {Kind: api.Null}}}
	of := func(n int, v api.Value) api.Value {
		for range n {
			v = list(api.Array, union(1, v))
		}
		return v
	}
	for _, n := range []int{1, api.MaxDepth, api.MaxItems, 1500000} {
		v := of(n, list(api.Array, union(0, null())))
		if !value.Fits(s, 0, v) || value.Fits(s, 1, v) || value.Fits(s, 0, of(n, null())) {
			t.Errorf("P4.1: Fits of what is within %d others", n)
		}
		if value.Depth(v) != 2*n+3 || value.Count(v) != 2*n+3 {
			t.Errorf("P4.1: Depth, Count of %d: %d, %d", n, value.Depth(v), value.Count(v))
		}
	}
	wide := list(api.Array)
	for range 100000 {
		wide.L = append(wide.L, union(0, null()))
	}
	if !value.Fits(s, 0, wide) {
		t.Error("P4.1: Fits of a long array")
	}
	wide.L[99999] = union(0, union(0, null()))
	if value.Fits(s, 0, wide) {
		t.Error("P4.1: Fits of a long array, the last of which does not fit")
	}
}

func TestFitsManyKeys(t *testing.T) {
	s := api.Schema{Nodes: []api.Node{{Kind: api.Map, Items: 1}, {Kind: api.Null}}}
	v := pairs(nil)
	for i := range 300000 {
		v.Keys = append(v.Keys, strings.Repeat("k", i%3)+string(rune(0x10000+i)))
		v.L = append(v.L, null())
	}
	if !value.Fits(s, 0, v) {
		t.Error("P4.1: a map of keys that are unlike does not fit")
	}
	v.Keys[299999] = v.Keys[7]
	if value.Fits(s, 0, v) {
		t.Error("P4.1: a map with a key twice fits")
	}
}

func TestCountAndDepth(t *testing.T) {
	rows := []struct {
		v            api.Value
		count, depth int
	}{
		{api.Value{}, 1, 1}, {null(), 1, 1}, {list(api.Array), 1, 1}, {api.Value{Kind: api.Map, Keys: []string{"a", "b"}}, 1, 1},
		{list(api.Array, null()), 2, 2}, {list(api.Array, null(), null()), 3, 2}, {union(0, null()), 2, 2},
		{list(api.Record, null(), list(api.Array, null(), union(0, null())), null()), 7, 4},
		{list(api.Record, chain(5, null()), null()), 7, 6}, {list(api.Record, null(), chain(5, null())), 7, 6},
		{list(api.Null, null()), 2, 2}, {list(99, list(-1, api.Value{})), 3, 3}, // whatever their kinds
		{chain(1000, null()), 1000, 1000},
	}
	for _, r := range rows {
		if count, depth := value.Count(r.v), value.Depth(r.v); count != r.count || depth != r.depth {
			t.Errorf("P4.1: Count, Depth of %v: %d, %d; want %d, %d", r.v, count, depth, r.count, r.depth)
		}
	}
}

// told is what a walk is to tell of v, at that depth.
func told(v api.Value, depth int) []step {
	out := []step{{depth, v}}
	for _, x := range v.L {
		out = append(out, told(x, depth+1)...)
	}
	return out
}

type step struct {
	depth int
	v     api.Value
}

func equal(a, b step) bool { return a.depth == b.depth && same(a.v, b.v) }

func walked(v api.Value) []step {
	var out []step
	for depth, x := range value.Walk(v) {
		out = append(out, step{depth, x})
	}
	return out
}

// sample has lists of all kinds.
func sample() api.Value {
	return list(api.Record, octets(api.Bytes, "ab"), pairs([]string{"k", "l"}, list(api.Array, leaf(api.Int, 1), leaf(api.Int, 2)), octets(api.String, "c")), union(1, chain(4, leaf(api.Long, 7))), null())
}

func TestWalk(t *testing.T) {
	rows := []api.Value{{}, null(), list(api.Array), list(api.Array, null(), leaf(api.Int, 1)), sample(), chain(100, sample()), list(99, list(-1, api.Value{N: 3, Keys: []string{"a"}}))}
	for _, v := range rows {
		if got := walked(v); !slices.EqualFunc(got, told(v, 1), equal) {
			t.Errorf("P4.1: Walk of %v: %v", v, got)
		}
	}
}

func TestWalkEnds(t *testing.T) {
	v := sample()
	all := told(v, 1)
	for most := 1; most <= len(all); most++ {
		n := 0
		value.Walk(v)(func(depth int, x api.Value) bool {
			if n >= len(all) || !equal(step{depth, x}, all[n]) {
				t.Errorf("P4.1: Walk tells %v as the %d. one", x, n)
			}
			n++
			return n < most
		})
		if n != most {
			t.Errorf("P4.1: Walk that was ended behind %d told %d", most, n)
		}
	}
}

// TestWalkOwn: R1, R3: a walk tells, as often as one likes, what was there when it was told, in memory of its own.
func TestWalkOwn(t *testing.T) {
	v := copied(sample())
	walk := value.Walk(v)
	spoil(v)
	want := told(sample(), 1)
	for range 3 {
		n := 0
		for depth, x := range walk {
			if n >= len(want) || !equal(step{depth, x}, want[n]) {
				t.Fatalf("R1, R3: Walk tells %d, %v as the %d. one", depth, x, n)
			}
			spoil(x)
			n++
		}
		if n != len(want) {
			t.Fatalf("R1: Walk tells %d", n)
		}
	}
	var kept []api.Value
	for _, x := range walk {
		kept = append(kept, x)
	}
	spoil(kept[0])
	for i, x := range kept[1:] {
		if !same(x, want[i+1].v) {
			t.Errorf("R3: the %d. one shares memory with the whole", i+1)
		}
	}
	for range walk {
		n := 0
		for range walk {
			n++
		}
		if n != len(want) {
			t.Errorf("R1: a walk within a walk tells %d", n)
		}
	}
}

// nested is n arrays and maps by turns within one another, each with bytes beside what it has within it.
func nested(n int) api.Value {
	out := null()
	for i := range n {
		if i%2 == 0 {
			out = list(api.Array, out, octets(api.Bytes, "bytes"))
		} else {
			out = pairs([]string{"a", "b"}, out, octets(api.String, "text"))
		}
	}
	return out
}

// TestWalkOwnDeep: R3 of what is deep, be the walk ended early or not (where it is not, all that is told has to stay below 2^31 bytes).
func TestWalkOwnDeep(t *testing.T) {
	for _, x := range []struct{ depth, most int }{{64, 200}, {65, 200}, {80, 200}, {1000, 2001}, {30000, 40}} {
		v := nested(x.depth)
		walk := value.Walk(v)
		spoil(v)
		for range 2 {
			n, want := 0, nested(x.depth)
			for depth, got := range walk {
				if n <= x.depth && (depth != n+1 || !same(got, want)) {
					t.Fatalf("P4.1, R3: %d deep: what is told as number %d, of depth %d, was changed by what was written into others", x.depth, n, depth)
				}
				spoil(got)
				if len(want.L) > 0 {
					want = want.L[0]
				}
				if n++; n == x.most {
					break
				}
			}
			if n != min(x.most, 2*x.depth+1) {
				t.Errorf("P4.1: %d deep: %d are told", x.depth, n)
			}
		}
	}
}

// TestWalkDeep: a walk of what is nested deeper than calls may be, or is a great deal to tell, comes to its end.
func TestWalkDeep(t *testing.T) {
	v := chain(1000000, null())
	walk := value.Walk(v)
	for range 2 {
		n := 0
		for depth, x := range walk {
			if n++; depth != n || x.Kind != api.Array && depth < 1000000 {
				t.Fatalf("P4.1: the %d. one has the depth %d, the kind %d", n, depth, x.Kind)
			}
			if len(x.L) > 0 {
				x.L[0] = leaf(99, 99)
			}
		}
		if n != 1000000 {
			t.Errorf("P4.1: Walk of a deep value told %d", n)
		}
	}
	long := chain(20000, octets(api.Bytes, strings.Repeat("a", 1<<20)))
	deepest := 0
	for depth := range value.Walk(long) {
		deepest = depth
	}
	if deepest != 20000 {
		t.Errorf("P4.1: Walk of a long value told %d", deepest)
	}
}

// TestArgumentsStay: R3: nothing writes into what it is given, nor behind the ends of its lists.
func TestArgumentsStay(t *testing.T) {
	v := copied(pairs([]string{"b", "a"}, union(1, list(api.Array, leaf(api.Boolean, 1))), union(0, null())))
	s := kinds()
	if !value.Fits(s, atMap, v) || value.Count(v) != 6 || value.Depth(v) != 4 {
		t.Error("P4.1: the map does not fit")
	}
	for range value.Walk(v) {
	}
	again := copied(pairs([]string{"b", "a"}, union(1, list(api.Array, leaf(api.Boolean, 1))), union(0, null())))
	if !same(roomy(v), roomy(again)) {
		t.Errorf("R3: it was changed: %v", roomy(v))
	}
}

// roomy is v with what copied laid behind the ends of its lists.
func roomy(v api.Value) api.Value {
	v.B, v.Keys = v.B[:len(v.B)+2], v.Keys[:len(v.Keys)+1]
	l := slices.Clone(v.L[:len(v.L)+1])
	for i := range l[:len(v.L)] {
		l[i] = roomy(l[i])
	}
	v.L = l
	return v
}
