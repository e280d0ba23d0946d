package live_test

import (
	"bytes"
	"math"
	"reflect"
	"slices"
	"strconv"
	"strings"
	"testing"

	"courant/api"
	"courant/canon"
	"courant/live"
	"courant/schema"
	"courant/value"
)

// parsed is the schema of a text; it is right.
func parsed(t *testing.T, text string) api.Schema {
	t.Helper()
	s, fault := schema.Parse(text)
	if fault != api.OK || !canon.Right(s) {
		t.Fatalf("the schema %.200s: error %d, or not right", text, fault)
	}
	return s
}

// record is the text of one, whose fields are of those types.
func record(name string, types ...string) string {
	fields := make([]string, len(types))
	for i, x := range types {
		fields[i] = `{"name":"f` + strconv.Itoa(i) + `","type":` + x + `}`
	}
	return `{"type":"record","name":"` + name + `","fields":[` + strings.Join(fields, ",") + `]}`
}

func array(items string) string   { return `{"type":"array","items":` + items + `}` }
func table(values string) string  { return `{"type":"map","values":` + values + `}` }
func fixed(name, n string) string { return `{"type":"fixed","name":"` + name + `","size":` + n + `}` }

// of is a schema of these nodes.
func of(n ...api.Node) api.Schema { return api.Schema{Nodes: n} }

// row is a node of the kind Record whose fields have their types at those places.
func row(places ...int) api.Node {
	n := api.Node{Kind: api.Record, Name: "r"}
	for _, at := range places {
		n.Fields = append(n.Fields, api.Field{Name: "f", Type: at})
	}
	return n
}

func union(places ...int) api.Node { return api.Node{Kind: api.Union, Branches: places} }

// same is R9's: all fields, and the elements of lists one by one.
func same(a, b api.Value) bool {
	return a.Kind == b.Kind && a.N == b.N && bytes.Equal(a.B, b.B) && slices.Equal(a.Keys, b.Keys) && slices.EqualFunc(a.L, b.L, same)
}

// within is a value of that kind, with a list.
func within(kind int, n int64, l ...api.Value) api.Value {
	return api.Value{Kind: kind, N: n, L: l}
}

// flags is a list of them, + for true.
func flags(signs string) []bool {
	out := make([]bool, len(signs))
	for i, sign := range signs {
		out[i] = sign == '+'
	}
	return out
}

func TestNodesRight(t *testing.T) {
	for text, want := range map[string]string{
		// Examples.
		record("a", `"a"`): "-", record("a", `["null","a"]`): "+++",
		// Each kind by itself.
		`"null"`: "+", `"boolean"`: "+", `"int"`: "+", `"long"`: "+", `"float"`: "+", `"double"`: "+", `"bytes"`: "+", `"string"`: "+", `{"type":"enum","name":"e","symbols":["X"]}`: "+", fixed("f", "0"): "+", array(`"int"`): "++", table(`"int"`): "++", `["null"]`: "++", record("a"): "+", record("a", `"int"`, `"string"`): "+++",
		// Records: all of their fields.
		record("a", `"int"`, `"a"`): "-+", record("a", `"a"`, `"int"`): "-+", record("a", record("b", record("c", `"null"`))): "++++", record("a", record("b", record("c", `"a"`))): "---", record("a", record("b", `"b"`), `"int"`): "--+", record("a", record("b"), `"b"`, record("c", `"a"`)): "-+-", record("a", record("b"), `"b"`, record("c", `"b"`)): "+++",
		// Lists are live, whatever is in them.
		array(record("a", `"a"`)): "+-", table(record("a", `"a"`)): "+-", record("a", array(`"a"`)): "++", record("a", table(`"a"`)): "++", array(array(record("a", `["a"]`))): "++--", record("a", array(record("b", `"b"`))): "++-",
		// Unions: one of their branches.
		record("a", `["a"]`): "--", record("a", `["a",`+array(`"a"`)+`]`): "+++", record("a", `["a",`+record("b", `"a"`)+`]`): "---", record("a", `["a",`+record("b", `"a"`)+`,`+record("c")+`]`): "++++", record("a", `["a",`+record("b", `["b","a"]`)+`]`): "----", `[` + record("a", `"a"`) + `,` + record("b", `"b"`) + `,"int"]`: "+--+", `[` + record("a", `"a"`) + `]`: "--",
		record("a", `["a",`+record("b", `["a",`+record("c", `["b","null"]`)+`]`)+`]`): "+++++++", record("a", `["null","a"]`, `"a"`): "-++", record("a", `["null","a"]`, `["a"]`): "-++-",
	} {
		if got := live.Nodes(parsed(t, text)); !slices.Equal(got, flags(want)) {
			t.Errorf("P11.1: Nodes of %s: %v; want %s", text, got, want)
		}
	}
}

// TestNodesKinds asks each kind, with all that a node may say, of places that are live, are not, and are not there.
func TestNodesKinds(t *testing.T) {
	const null, dead = 1, 2
	kinds := []int{0, -1, api.Fixed + 1, math.MinInt, math.MaxInt}
	for kind := api.Null; kind <= api.Fixed; kind++ {
		kinds = append(kinds, kind)
	}
	for _, kind := range kinds {
		for _, at := range []int{null, dead, 0, -1, 3, math.MinInt, math.MaxInt} {
			for _, other := range []int{null, dead} {
				fields := []api.Field{{Name: "a", Type: at}, {Name: "b", Type: other, Has: true, Default: "null"}}
				n := api.Node{Kind: kind, Name: "n", Aliases: []string{"a"}, Fields: fields, Items: at, Branches: []int{at, other}, Size: at}
				want := kind >= api.Null && kind <= api.Fixed
				switch kind {
				case api.Record:
					want = at == null && other == null
				case api.Union:
					want = at == null || other == null
				}
				if got := live.Nodes(of(n, api.Node{Kind: api.Null}, row(dead))); !slices.Equal(got, []bool{want, true, false}) {
					t.Errorf("P11.1: Nodes of the kind %d, with the places %d and %d: %v", kind, at, other, got)
				}
			}
		}
	}
}

func TestNodesOdd(t *testing.T) {
	null := api.Node{Kind: api.Null}
	rows := []struct {
		s    api.Schema
		want string
	}{
		{of(), ""}, {of(union()), "-"}, {of(union(0)), "-"}, {of(union(0, 0), null), "-+"}, {of(row()), "+"}, {of(union(0, 1), row()), "++"}, {of(row(0)), "-"}, {of(row(1)), "-"}, {of(row(-1)), "-"}, {of(row(1, 1, 1), null), "++"}, {of(row(1, 1, 0), null), "-+"}, {of(row(1, 2, 1), null), "-+"},
		{of(union(1), union(2), union(0)), "---"}, {of(union(1), union(2), union(0, 3), null), "++++"}, {of(union(1, 1, 1), null), "++"}, {of(row(1, 1), union(2, 2, 2, 3), row(), row()), "++++"}, {of(union(9, -9, 1), null), "++"}, {of(union(9, -9), null), "-+"},
		// What is found at once by more than one branch is there once for those that wait.
		{of(row(1, 2), union(3, 4, 5), union(4, 5), row(6), row(6), row(6), null), "+++++++"}, {of(row(1, 1, 2), union(2, 3), row(3), row(4), null), "+++++"},
		{of(row(1), row(0), null), "--+"}, {of(api.Node{Kind: api.Array, Items: 0}), "+"}, {of(api.Node{Kind: api.Map, Items: 7}), "+"}, {of(api.Node{Kind: api.Enum}), "+"}, {of(api.Node{Kind: api.Fixed, Size: math.MinInt}), "+"}, {of(api.Node{Kind: api.Int, Branches: []int{5}, Fields: []api.Field{{Type: 0}}}), "+"},
	}
	for i, r := range rows {
		if got := live.Nodes(r.s); !slices.Equal(got, flags(r.want)) {
			t.Errorf("P11.1: Nodes of the row %d: %v; want %s", i, got, r.want)
		}
	}
}

// long is so many records, each around the next one, or the one ahead, with an end that is live, or is not.
func long(many int, back, ends bool) api.Schema {
	s := api.Schema{Nodes: make([]api.Node, many)}
	for i := range many {
		at := i + 1
		if back {
			at = i - 1
		}
		s.Nodes[i] = row(at)
		if i%2 == 1 {
			s.Nodes[i] = union(at, at)
		}
	}
	end := many - 1
	if back {
		end = 0
	}
	s.Nodes[end] = row(end)
	if ends {
		s.Nodes[end] = row()
	}
	return s
}

// TestNodesMany: schemas of many nodes end, too, and soon, whatever leads where.
func TestNodesMany(t *testing.T) {
	const many = 100000
	for _, back := range []bool{false, true} {
		for _, ends := range []bool{false, true} {
			s := long(many, back, ends)
			if got := live.Nodes(s); len(got) != many || slices.Contains(got, !ends) {
				t.Errorf("P11.1: Nodes of many, back %v, with an end %v", back, ends)
			}
			all := make([]int, many)
			for i := range many {
				all[i] = i
			}
			s.Nodes = append(s.Nodes, row(all...), union(all...), row(slices.Repeat(all[:many/2], 2)...), union(many))
			if got := live.Nodes(s); len(got) != many+4 || slices.Contains(got, !ends) {
				t.Errorf("P11.1: Nodes of all of many, back %v, with an end %v", back, ends)
			}
		}
	}
}

// holdLeast holds Least; want is nil, if there is none.
func holdLeast(t *testing.T, what string, s api.Schema, node int, want *api.Value) {
	t.Helper()
	v, is := live.Least(s, node)
	switch {
	case want == nil && (is || !reflect.DeepEqual(v, api.Value{})):
		t.Errorf("P11.1: Least of %s, the node %d: %+v, %v; want none", what, node, v, is)
	case want != nil && (!is || !same(v, *want)):
		t.Errorf("P11.1: Least of %s, the node %d: %+v, %v; want %+v", what, node, v, is, *want)
	case want != nil && !value.Fits(s, node, v):
		t.Errorf("What follows: Least of %s, the node %d: %+v does not fit", what, node, v)
	}
}

func TestLeast(t *testing.T) {
	null, nought, text := within(api.Null, 0), within(api.Int, 0), within(api.String, 0)
	zeros := func(kind, n int) api.Value { return api.Value{Kind: kind, B: make([]byte, n)} }
	rows := map[string]*api.Value{}
	for text, v := range map[string]api.Value{
		`"null"`: null, `"boolean"`: within(api.Boolean, 0), `"int"`: nought, `"long"`: within(api.Long, 0), `"float"`: zeros(api.Float, 4), `"double"`: zeros(api.Double, 8), `"bytes"`: zeros(api.Bytes, 0), `"string"`: text,
		`{"type":"enum","name":"e","symbols":["X","Y"]}`: within(api.Enum, 0), `{"type":"enum","name":"e","symbols":["X","Y"],"default":"Y"}`: within(api.Enum, 0), fixed("f", "0"): zeros(api.Fixed, 0), fixed("f", "3"): zeros(api.Fixed, 3), fixed("f", "1000"): zeros(api.Fixed, 1000),
		array(`"int"`): within(api.Array, 0), table(`"int"`): within(api.Map, 0), array(record("a", `"a"`)): within(api.Array, 0), table(record("a", `"a"`)): within(api.Map, 0),
		record("a"): within(api.Record, 0), record("a", `"int"`, `"null"`, fixed("f", "2"), `"f"`): within(api.Record, 0, nought, null, zeros(api.Fixed, 2), zeros(api.Fixed, 2)), record("a", record("b"), `"b"`, record("c", `"string"`)): within(api.Record, 0, within(api.Record, 0), within(api.Record, 0), within(api.Record, 0, text)), record("a", array(`"a"`), table(`"a"`)): within(api.Record, 0, within(api.Array, 0), within(api.Map, 0)),
		// Defaults play no part.
		`{"type":"record","name":"a","fields":[{"name":"b","type":"int","default":5}]}`: within(api.Record, 0, nought),
		// Of a union the first branch of the least rank.
		`["int"]`: within(api.Union, 0, nought), `["int","null"]`: within(api.Union, 0, nought), `["string","int","null"]`: within(api.Union, 0, text), record("a", `["null","a"]`): within(api.Record, 0, within(api.Union, 0, null)), record("a", `["a","int","null"]`): within(api.Record, 0, within(api.Union, 1, nought)),
		`[` + record("a") + `,"int","null"]`: within(api.Union, 1, nought), `[` + record("a") + `,` + record("b") + `]`: within(api.Union, 0, within(api.Record, 0)), `[` + record("a", `"int"`) + `,` + record("b") + `]`: within(api.Union, 0, within(api.Record, 0, nought)), `[` + record("a", record("c")) + `,` + record("b") + `]`: within(api.Union, 1, within(api.Record, 0)),
		`[` + record("a", record("c")) + `,` + record("b", `["c"]`) + `,` + record("d", `"int"`) + `]`: within(api.Union, 2, within(api.Record, 0, nought)), `[` + record("a", record("c"), `"int"`) + `,` + record("b", `"int"`, `["null"]`) + `]`: within(api.Union, 0, within(api.Record, 0, within(api.Record, 0), nought)), `[` + record("a", `["null"]`, record("c", record("d"))) + `,` + record("b", `["d"]`) + `]`: within(api.Union, 0, within(api.Record, 0, within(api.Union, 0, null), within(api.Record, 0, within(api.Record, 0)))),
		`[` + record("a", `"a"`) + `,` + record("b", record("c", `"int"`)) + `]`: within(api.Union, 1, within(api.Record, 0, within(api.Record, 0, nought))), `[` + record("a", `["a"]`) + `,` + array(`"a"`) + `,"null"]`: within(api.Union, 1, within(api.Array, 0)),
		// A rank is the greatest of the fields', and one more than the least of the branches'.
		`[` + record("a", `"null"`, record("c", record("d"))) + `,` + record("b", `"d"`, `["null"]`) + `]`: within(api.Union, 1, within(api.Record, 0, within(api.Record, 0), within(api.Union, 0, null))), `[` + record("a", `[`+record("c")+`,"null"]`) + `,` + record("b", `"c"`) + `]`: within(api.Union, 0, within(api.Record, 0, within(api.Union, 1, null))),
	} {
		rows[text] = &v
	}
	for _, text := range []string{record("a", `"a"`), record("a", `["a"]`), record("a", `"int"`, `"a"`), record("a", record("b", `["a","b"]`)), `[` + record("a", `"a"`) + `]`} {
		rows[text] = nil
	}
	for text, want := range rows {
		s := parsed(t, text)
		holdLeast(t, text, s, 0, want)
		for _, at := range []int{-1, len(s.Nodes), len(s.Nodes) + 1, math.MinInt, math.MaxInt, 1 << 32, -1 << 32} {
			holdLeast(t, text, s, at, nil)
		}
	}
	holdLeast(t, "no nodes", api.Schema{}, 0, nil)
}

// TestLeastNodes: each node has its own value, whatever those ahead are.
func TestLeastNodes(t *testing.T) {
	s := parsed(t, record("a", `["null","a"]`, record("b", `"b"`), array(`"b"`), `["b","string"]`))
	null, text := within(api.Null, 0), within(api.String, 0)
	list, one, other := within(api.Array, 0), within(api.Union, 0, null), within(api.Union, 1, text)
	for at, want := range []*api.Value{nil, &one, &null, nil, &list, &other, &text} {
		holdLeast(t, "a record with one that is not live", s, at, want)
	}
}

// TestLeastItems: at the edge of MaxItems.
func TestLeastItems(t *testing.T) {
	many := func(n int, x string) []string { return slices.Repeat([]string{x}, n) }
	// Each b is 99 values.
	b := record("b", many(98, `"int"`)...)
	hundred := append([]string{b}, many(100, `"b"`)...)
	rows := []struct {
		text  string
		count int
	}{
		{record("a", hundred...), api.MaxItems}, {record("a", append(hundred[:101:101], `"int"`)...), 0}, {record("a", append([]string{`"int"`}, hundred...)...), 0}, {record("a", append(hundred[:100:100], record("c", many(97, `"null"`)...))...), api.MaxItems - 1}, {`[` + record("a", hundred...) + `]`, 0}, {`[` + record("a", hundred...) + `,"null"]`, 2},
		// The union itself is a value.
		{record("a", append(hundred[:100:100], record("c", append(many(96, `"int"`), `["null"]`)...))...), api.MaxItems}, {record("a", append(hundred[:100:100], record("c", append(many(97, `"int"`), `["null"]`)...))...), 0},
		// The least rank is taken, though it is too many.
		{`[` + record("a", record("c", record("d", record("e", record("f"))))) + `,` + record("g", append(hundred[:101:101], `"int"`)...) + `]`, 0}, {`["null",` + record("a", append(hundred, many(100, `"b"`)...)...) + `]`, 2},
		{array(record("a", append(hundred, `"b"`)...)), 1},
	}
	for i, r := range rows {
		s := parsed(t, r.text)
		v, is := live.Least(s, 0)
		if is != (r.count > 0) || is && (value.Count(v) != r.count || !value.Fits(s, 0, v)) || !is && !reflect.DeepEqual(v, api.Value{}) {
			t.Errorf("P11.1: Least of the row %d: %d values, %v; want %d", i, value.Count(v), is, r.count)
		}
		if !live.Nodes(s)[0] {
			t.Errorf("P11.1: the node of the row %d is live, however many values it has", i)
		}
	}
	// Fixeds have as many bytes as they like.
	s := parsed(t, record("a", append([]string{record("b", append([]string{fixed("f", "1000")}, many(97, `"f"`)...)...)}, many(100, `"b"`)...)...))
	if v, is := live.Least(s, 0); !is || value.Count(v) != api.MaxItems || !value.Fits(s, 0, v) {
		t.Errorf("P11.1: Least of many Fixeds: %d values, %v", value.Count(v), is)
	}
}

// chain is a record that has as many others as fields: the first of them of no fields, each other one of so many of the one ahead.
func chain(many, times int) string {
	types := []string{record("r0")}
	for k := 1; k < many; k++ {
		types = append(types, record("r"+strconv.Itoa(k), slices.Repeat([]string{`"r` + strconv.Itoa(k-1) + `"`}, times)...))
	}
	return record("a", types...)
}

// TestLeastDeep: records of twice the one ahead each, and some that are as deep as a schema allows.
func TestLeastDeep(t *testing.T) {
	const most = 12 // 2^13 - 1 values
	s := parsed(t, chain(40, 2))
	for k := range 40 {
		v, is := live.Least(s, k+1)
		if is != (k <= most) || is && value.Count(v) != 1<<(k+1)-1 || !is && !reflect.DeepEqual(v, api.Value{}) {
			t.Errorf("P11.1: Least of r%d: %d values, %v", k, value.Count(v), is)
		}
	}
	s = parsed(t, chain(139, 1))
	for k := range 139 {
		if v, is := live.Least(s, k+1); !is || value.Depth(v) != k+1 || !value.Fits(s, k+1, v) {
			t.Errorf("P11.1: Least of r%d: %d deep, %v", k, value.Depth(v), is)
		}
	}
	if v, is := live.Least(s, 0); !is || value.Count(v) != 1+139*140/2 {
		t.Errorf("P11.1: Least of all of them: %d values, %v", value.Count(v), is)
	}
}

// TestLeastOdd: of schemas that are not right nothing is said, but that there is an end, and no value of what is not live.
func TestLeastOdd(t *testing.T) {
	for i, s := range []api.Schema{
		of(api.Node{Kind: api.Fixed, Size: -1}), of(api.Node{Kind: api.Fixed, Size: math.MinInt}), of(api.Node{Kind: api.Fixed, Size: math.MaxInt}), of(api.Node{Kind: api.Fixed, Size: 1 << 40}), of(api.Node{Kind: api.Enum}), of(union(9, -9, 1), api.Node{Kind: api.Null}), of(row(slices.Repeat([]int{1}, 2000)...), api.Node{Kind: api.Fixed, Size: 1 << 32}),
		of(row(slices.Repeat([]int{0}, 20000)...)), of(row(slices.Repeat([]int{1}, 20000)...), row()), long(100000, false, true), long(100000, true, true), long(100000, false, false), of(row(7)), of(union()),
	} {
		lives := live.Nodes(s)
		for at := -1; at <= len(s.Nodes); at += max(1, len(s.Nodes)/3) {
			if v, is := live.Least(s, at); is && (!lives[at] || !value.Fits(s, at, v)) || !is && !reflect.DeepEqual(v, api.Value{}) {
				t.Errorf("P11.1: Least of the odd row %d, the node %d", i, at)
			}
		}
	}
}

// TestLeastBytes: what is not right may not take more bytes than what is right.
func TestLeastBytes(t *testing.T) {
	for size, want := range map[int]bool{1000: true, 5_000_000: true, 5_000_001: false, 1 << 31: false} {
		s := of(row(1, 1), api.Node{Kind: api.Fixed, Name: "f", Size: size})
		if v, is := live.Least(s, 0); is != want || is && !value.Fits(s, 0, v) {
			t.Errorf("P11.1: Least of two Fixeds of %d bytes: %v", size, is)
		}
	}
}

// TestOwnMemory: what is handed in stays, with the room behind its ends, and what is handed out is new each time, no two lists of it sharing any (R3).
func TestOwnMemory(t *testing.T) {
	build := func() api.Schema {
		fields := []api.Field{{Name: "x", Type: 1}, {Name: "y", Type: 2}, {Name: "z", Type: 2}, {Name: "u", Type: 4}, {Name: "behind", Type: 9}}
		nodes := []api.Node{{Kind: api.Record, Name: "a", Fields: fields[:4]}, {Kind: api.Float}, {Kind: api.Fixed, Name: "f", Size: 3}, {Kind: api.Null}, {Kind: api.Union, Branches: []int{0, 3, 2, 9}[:3]}, {Kind: api.Bytes}}
		return of(nodes[:5]...)
	}
	whole := func(s api.Schema) any {
		return []any{s.Nodes[:6], s.Nodes[0].Fields[:5], s.Nodes[4].Branches[:4]}
	}
	s := build()
	flags := live.Nodes(s)
	want, is := live.Least(build(), 0)
	v, as := live.Least(s, 0)
	if !is || !as || len(v.L) != 4 || len(v.L[3].L) != 1 {
		t.Fatalf("P11.1: Least: %+v", v)
	}
	for i := range v.L { // one after the other is written over, with its room; those behind stay
		if !same(v.L[i], want.L[i]) {
			t.Errorf("R3: the value %d is changed by the one ahead", i)
		}
		octets, list := v.L[i].B[:cap(v.L[i].B)], v.L[i].L[:cap(v.L[i].L)]
		for k := range octets {
			octets[k] = '#'
		}
		for k := range list {
			list[k] = api.Value{Kind: 99}
		}
	}
	for i := range flags[:cap(flags)] {
		flags[:cap(flags)][i] = false
	}
	if again, is := live.Least(s, 0); !is || !same(again, want) || slices.Contains(live.Nodes(s), false) {
		t.Error("R3: what is told again is changed")
	}
	if !reflect.DeepEqual(whole(s), whole(build())) {
		t.Error("R3: what was handed in is changed")
	}
}
