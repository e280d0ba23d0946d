package match_test

import (
	"math"
	"reflect"
	"slices"
	"strings"
	"testing"

	"courant/api"
	"courant/match"
	"courant/schema"
)

func parsed(t *testing.T, text string) api.Schema {
	t.Helper()
	s, fault := schema.Parse(text)
	if fault != api.OK {
		t.Fatalf("the schema %.200s: error %d", text, fault)
	}
	return s
}

// of is a schema of these nodes.
func of(n ...api.Node) api.Schema { return api.Schema{Nodes: n} }

// called is a node of that kind and name, with aliases.
func called(kind int, name string, aliases ...string) api.Node {
	return api.Node{Kind: kind, Name: name, Aliases: aliases}
}

// round is so many nodes of that kind, each of whose items are the next one, and of the last one the node back.
func round(kind, many, back int) api.Schema {
	s := api.Schema{}
	for i := range many {
		s.Nodes = append(s.Nodes, api.Node{Kind: kind, Items: i + 1})
	}
	s.Nodes[many-1].Items = back
	return s
}

// chain is so many nodes of that kind, each within the one ahead, around the node inner.
func chain(kind, many int, inner api.Node) api.Schema {
	s := api.Schema{}
	for i := range many {
		s.Nodes = append(s.Nodes, api.Node{Kind: kind, Items: i + 1})
	}
	s.Nodes = append(s.Nodes, inner)
	return s
}

// away are places that are not there in a schema of so many nodes.
func away(many int) []int {
	return []int{-1, many, many + 1, math.MaxInt, math.MinInt, 1 << 32, -1 << 32}
}

func TestNamed(t *testing.T) {
	rows := []struct {
		name, other string
		aliases     []string
		is          bool
	}{
		{"a", "a", nil, true}, {"n.a", "n.a", nil, true}, {"n.a", "m.a", nil, true}, {"a", "n.m.a", nil, true}, {"n.m.a", "a", nil, true},
		{"a", "b", nil, false}, {"n.a", "n.b", nil, false}, {"a", "A", nil, false}, {"a", "aa", nil, false}, {"aa", "a", nil, false}, {"a.b", "b.a", nil, false}, {"a", "a.b", nil, false},
		{"n.a", "b", []string{"n.a"}, true}, {"n.a", "b", []string{"x", "y.a", "n.a", "z"}, true}, {"a", "n.b", []string{"a"}, true},
		{"n.a", "b", []string{"a"}, false}, {"a", "b", []string{"n.a"}, false}, {"n.a", "b", []string{"m.a"}, false}, {"n.a", "b", []string{"n.A", "n.aa", "n"}, false},
		{"n.a", "m.a", []string{"c"}, true}, {"a", "b", []string{""}, false},
		{"", "", nil, true}, {"n.", "", nil, true}, {"", "b", []string{""}, true}, {"", "b", nil, false}, {"a", "", nil, false}, {"\xff", "n.\xff", nil, true}, {"\xff", "\xfe", nil, false},
	}
	for i, r := range rows {
		if is := match.Named(called(0, r.name), called(0, r.other, r.aliases...)); is != r.is {
			t.Errorf("P9.1: Named of the row %d: %v", i, is)
		}
	}
	if match.Named(called(api.Record, "n.a", "m.b"), called(api.Record, "m.b")) {
		t.Error("P9.1: Named by an alias of w")
	}
	if !match.Named(called(api.Enum, "n.a"), called(api.Fixed, "m.a")) || !match.Named(api.Node{Name: "a", Size: 1, Kind: -1}, api.Node{Name: "a"}) {
		t.Error("P9.1: Named hangs on more than names")
	}
}

// TestKinds holds each kind against each, with nothing but it; so also kinds that there are not.
func TestKinds(t *testing.T) {
	for w := -1; w <= api.Fixed+1; w++ {
		for r := -1; r <= api.Fixed+1; r++ {
			want := w == r || w == api.Union || r == api.Union || w == api.Int && r == api.Long || w == api.String && r == api.Bytes
			// Items point to a node that matches itself, so that nothing but the kind tells.
			s := of(api.Node{Kind: w, Items: 2}, api.Node{Kind: r, Items: 2}, api.Node{Kind: api.Null})
			if is := match.Types(s, 0, s, 1); is != want {
				t.Errorf("P9.1: Types of the kinds %d and %d: %v", w, r, is)
			}
		}
	}
}

func TestTypes(t *testing.T) {
	fixed := func(name string, size string) string {
		return `{"type":"fixed","name":"` + name + `","size":` + size + `,"aliases":["n.old"]}`
	}
	enum := func(name, symbols string) string {
		return `{"type":"enum","name":"` + name + `","symbols":[` + symbols + `],"aliases":["old"]}`
	}
	record := func(name, fields string) string {
		return `{"type":"record","name":"` + name + `","fields":[` + fields + `],"aliases":["n.old","older"]}`
	}
	array := func(items string) string { return `{"type":"array","items":` + items + `}` }
	many := func(values string) string { return `{"type":"map","values":` + values + `}` }
	rows := []struct {
		w, r string
		is   bool
	}{
		{record("a", ""), record("n.a", `{"name":"x","type":"int"}`), true}, {record("a", `{"name":"x","type":"int"}`), record("a", `{"name":"x","type":"string"}`), true}, {record("a", ""), record("b", ""), false},
		{record("n.old", ""), record("b", ""), true}, {record("old", ""), record("b", ""), false}, {record("m.old", ""), record("b", ""), false}, {record("older", ""), record("b", ""), true}, {record("older", ""), record("n.b", ""), false}, {record("b", ""), record("n.old", ""), false},
		{enum("a", `"X"`), enum("n.a", `"Y","Z"`), true}, {enum("a", `"X"`), enum("b", `"X"`), false}, {enum("old", `"X"`), enum("b", `"X"`), true}, {enum("n.old", `"X"`), enum("b", `"X"`), false},
		{fixed("a", "3"), fixed("n.a", "3"), true}, {fixed("a", "3"), fixed("a", "4"), false}, {fixed("a", "3"), fixed("b", "3"), false}, {fixed("n.old", "3"), fixed("b", "3"), true}, {fixed("n.old", "3"), fixed("b", "0"), false}, {fixed("a", "0"), fixed("a", "0"), true}, {fixed("a", "0"), fixed("a", "1000"), false},
		{record("a", ""), enum("a", `"X"`), false}, {enum("a", `"X"`), fixed("a", "1"), false}, {fixed("a", "1"), record("a", ""), false}, {fixed("a", "1"), `"bytes"`, false}, {`"bytes"`, fixed("a", "1"), false},
		{array(`"null"`), array(`"null"`), true}, {array(`"int"`), array(`"long"`), true}, {array(`"long"`), array(`"int"`), false}, {array(`"string"`), array(`"bytes"`), true}, {array(`"null"`), `"null"`, false}, {`"null"`, array(`"null"`), false},
		{many(`"int"`), many(`"long"`), true}, {many(`"bytes"`), many(`"string"`), false}, {array(`"int"`), many(`"int"`), false}, {many(`"int"`), array(`"int"`), false},
		{array(many(`"int"`)), array(many(`"long"`)), true}, {array(many(`"int"`)), array(array(`"int"`)), false}, {array(many(`"int"`)), many(array(`"int"`)), false}, {array(array(`"int"`)), array(`"int"`), false},
		{array(`["null","int"]`), array(`"string"`), true}, {array(`"string"`), array(`["null"]`), true}, {array(array(`"string"`)), array(`["null"]`), true}, {array(`["null"]`), array(many(`"int"`)), true}, {many(`["null"]`), array(`["null"]`), false},
		{array(record("a", "")), array(record("n.a", `{"name":"x","type":"int"}`)), true}, {many(fixed("a", "1")), many(fixed("a", "2")), false}, {many(enum("old", `"X"`)), many(enum("b", `"Y"`)), true},
		{`["null"]`, `["string"]`, true}, {`["null"]`, record("a", ""), true}, {fixed("a", "1"), `["null"]`, true}, {array(`"int"`), `["null"]`, true},
	}
	for i, r := range rows {
		if is := match.Types(parsed(t, r.w), 0, parsed(t, r.r), 0); is != r.is {
			t.Errorf("P9.1: Types of the row %d: %v", i, is)
		}
	}
	// i is a place of w, and k one of r.
	w := of(api.Node{Kind: api.Null}, api.Node{Kind: api.Int}, api.Node{Kind: api.String})
	r := of(api.Node{Kind: api.Bytes}, api.Node{Kind: api.Null}, api.Node{Kind: api.Long})
	for i, want := range []int{1, 2, 0} {
		for k := range r.Nodes {
			if is := match.Types(w, i, r, k); is != (k == want) {
				t.Errorf("P9.1: Types of the places %d and %d: %v", i, k, is)
			}
		}
	}
}

// TestTypesAway: a place that is not there matches nothing, not a union either.
func TestTypesAway(t *testing.T) {
	s := of(api.Node{Kind: api.Union, Branches: []int{1}}, api.Node{Kind: api.Null})
	for _, at := range away(2) {
		for k := range s.Nodes {
			if match.Types(s, at, s, k) || match.Types(s, k, s, at) || match.Types(s, at, s, at) {
				t.Errorf("P9.1: the place %d, which is not there, matches", at)
			}
		}
		list := of(api.Node{Kind: api.Array, Items: at}, api.Node{Kind: api.Union})
		union := of(api.Node{Kind: api.Array, Items: 1}, api.Node{Kind: api.Union})
		if match.Types(list, 0, list, 0) || match.Types(list, 0, union, 0) || match.Types(union, 0, list, 0) {
			t.Errorf("P9.1: arrays whose items are at %d match", at)
		}
		if !match.Types(list, 0, union, 1) || !match.Types(union, 1, list, 0) {
			t.Errorf("P9.1: an array whose items are at %d does not match a union", at)
		}
		if !match.Types(of(api.Node{Kind: api.Int, Items: at}), 0, of(api.Node{Kind: api.Int, Items: 5}), 0) {
			t.Error("P9.1: items of what has none play a part")
		}
	}
	if match.Types(api.Schema{}, 0, s, 0) || match.Types(s, 0, api.Schema{}, 0) || match.Types(api.Schema{}, 0, api.Schema{}, 0) {
		t.Error("P9.1: no nodes match")
	}
}

// TestTypesRound: lists whose items lead back to themselves match only where an answer comes ahead of that.
func TestTypesRound(t *testing.T) {
	const many = 100000
	null, union := api.Node{Kind: api.Null}, api.Node{Kind: api.Union}
	for _, kind := range []int{api.Array, api.Map} {
		other := api.Array + api.Map - kind
		one, two, three, five := round(kind, 1, 0), round(kind, 2, 0), round(kind, 3, 0), round(kind, 5, 0)
		rows := []struct {
			w, r api.Schema
			is   bool
		}{
			{one, one, false}, {one, two, false}, {two, one, false}, {three, five, false}, {five, three, false}, {round(kind, 4, 3), round(kind, 6, 2), false}, {one, round(other, 1, 0), false}, {round(kind, many, 0), round(kind, many-1, 0), false},
			{one, chain(kind, 1, null), false}, {chain(kind, 3, null), two, false}, {one, chain(kind, 3, api.Node{Kind: other}), false},
			{one, chain(kind, 1, union), true}, {one, chain(kind, 7, union), true}, {chain(kind, 7, union), one, true}, {three, chain(kind, 2, union), true}, {chain(kind, 1, union), five, true}, {round(kind, 4, 3), chain(kind, 4, union), true}, {one, chain(kind, many, union), true}, {chain(kind, many, union), round(kind, many, 0), true},
			{chain(kind, many, null), chain(kind, many, null), true}, {chain(kind, many, null), chain(kind, many-1, null), false}, {chain(kind, 1, api.Node{Kind: api.Int}), chain(kind, 1, api.Node{Kind: api.Long}), true}, {chain(kind, 1, null), chain(other, 1, null), false},
			{of(api.Node{Kind: kind, Items: 1}, api.Node{Kind: other, Items: 0}), of(api.Node{Kind: kind, Items: 1}, api.Node{Kind: other, Items: 0}), false}, {of(api.Node{Kind: kind, Items: 1}, api.Node{Kind: other, Items: 0}), one, false},
		}
		for i, r := range rows {
			if is := match.Types(r.w, 0, r.r, 0); is != r.is {
				t.Errorf("P9.1: Types of kind %d, the row %d: %v", kind, i, is)
			}
		}
	}
	// Where the answer stands at places ahead of the asked ones, and an item stands twice on the way.
	back := of(null, api.Node{Kind: api.Array, Items: 0}, api.Node{Kind: api.Array, Items: 1})
	if !match.Types(back, 2, back, 2) || match.Types(back, 2, back, 1) || match.Types(back, 1, back, 2) {
		t.Error("P9.1: Types of items that stand ahead")
	}
}

func TestBranch(t *testing.T) {
	r := parsed(t, `["null","long","bytes","string",{"type":"array","items":"long"},{"type":"map","values":["null"]},{"type":"enum","name":"E","symbols":["X"],"aliases":["n.D"]},{"type":"fixed","name":"n.D","size":2},{"type":"fixed","name":"F","size":3},{"type":"record","name":"R","fields":[]}]`)
	for text, want := range map[string]int{
		`"null"`: 0, `"boolean"`: -1, `"int"`: 1, `"long"`: 1, `"float"`: -1, `"double"`: -1, `"bytes"`: 2, `"string"`: 2, `["string"]`: 0, `["boolean"]`: 0,
		`{"type":"array","items":"int"}`: 4, `{"type":"array","items":["string"]}`: 4, `{"type":"array","items":"string"}`: -1, `{"type":"map","values":"int"}`: 5,
		`{"type":"enum","name":"m.E","symbols":["Y"]}`: 6, `{"type":"enum","name":"n.D","symbols":["Y"]}`: 6, `{"type":"enum","name":"m.D","symbols":["Y"]}`: -1,
		`{"type":"fixed","name":"D","size":2}`: 7, `{"type":"fixed","name":"D","size":3}`: -1, `{"type":"fixed","name":"F","size":3}`: 8, `{"type":"record","name":"R","fields":[]}`: 9, `{"type":"record","name":"E","fields":[]}`: -1,
	} {
		if at := match.Branch(parsed(t, text), 0, r, 0); at != want {
			t.Errorf("P9.2: Branch of %s: %d; want %d", text, at, want)
		}
	}
	for at, k := range r.Nodes[0].Branches { // the place is the branch's, not its node's
		want := at
		if at == 3 { // a string may be read as the bytes ahead
			want = 2
		}
		if got := match.Branch(r, k, r, 0); got != want {
			t.Errorf("P9.2: Branch of the branch %d: %d; want %d", at, got, want)
		}
	}
}

func TestBranchOdd(t *testing.T) {
	kinds := of(api.Node{Kind: api.Int}, api.Node{Kind: api.Long}, api.Node{Kind: api.Union}, api.Node{Kind: api.Array, Items: 3}, api.Node{Kind: api.String})
	with := func(branches ...int) api.Schema {
		s := of(slices.Clone(kinds.Nodes)...)
		s.Nodes[2].Branches = branches
		return s
	}
	rows := []struct {
		i    int
		r    api.Schema
		want int
	}{
		{0, with(), -1}, {2, with(), -1}, {0, with(4, 1, 0), 1}, {0, with(4, 0, 1), 1}, {1, with(4, 0, 1), 2}, {0, with(0, 0), 0}, {0, with(4, 4), -1},
		{0, with(-1, 9, 5, math.MaxInt, math.MinInt, 1), 5}, {0, with(-1, 5), -1}, {2, with(-1, 5), -1}, {2, with(5, 4, 0), 1}, {0, with(4, 2), 1}, {0, with(2, 0), 0},
		{3, with(3), -1}, {3, with(3, 4, 2), 2}, {0, with(3, 1), 1}, {-1, with(2, 0), -1}, {5, with(2, 0), -1}, {math.MaxInt, with(2), -1}, {math.MinInt, with(2), -1},
	}
	for i, x := range rows {
		if at := match.Branch(kinds, x.i, x.r, 2); at != x.want {
			t.Errorf("P9.2: Branch of the row %d: %d; want %d", i, at, x.want)
		}
	}
	r := with(0, 1)
	for _, k := range append(away(5), 0, 1, 3, 4) {
		r.Nodes[0].Branches, r.Nodes[3].Branches = []int{0, 1}, []int{0, 1}
		if at := match.Branch(kinds, 0, r, k); at != -1 {
			t.Errorf("P9.2: Branch of the place %d, which is no union: %d", k, at)
		}
	}
	if match.Branch(api.Schema{}, 0, r, 2) != -1 || match.Branch(r, 0, api.Schema{}, 0) != -1 {
		t.Error("P9.2: Branch of no nodes")
	}
	// Each branch is gone through from the beginning: what is asked of one does not tell on the next one.
	w := chain(api.Array, 2, api.Node{Kind: api.Int})
	deep := of(api.Node{Kind: api.Union, Branches: []int{3, 2, 1}}, api.Node{Kind: api.Array, Items: 2}, api.Node{Kind: api.Array, Items: 4}, api.Node{Kind: api.Array, Items: 5}, api.Node{Kind: api.Int}, api.Node{Kind: api.Array, Items: 6}, api.Node{Kind: api.String})
	if at := match.Branch(w, 0, deep, 0); at != 2 {
		t.Errorf("P9.2: Branch of arrays in arrays: %d; want 2", at)
	}
}

func TestField(t *testing.T) {
	w := api.Node{Kind: api.Record, Fields: []api.Field{{Name: "a", Aliases: []string{"q", "x"}}, {Name: "b"}, {Name: "c", Type: 7}, {Name: "b"}, {Name: ""}}}
	rows := []struct {
		name    string
		aliases []string
		want    int
	}{
		{"a", nil, 0}, {"b", nil, 1}, {"c", nil, 2}, {"x", nil, -1}, {"A", nil, -1}, {"aa", nil, -1}, {"n.a", nil, -1},
		{"c", []string{"a"}, 2}, {"c", []string{"c", "a"}, 2}, {"x", []string{"c", "a"}, 2}, {"x", []string{"a", "c"}, 0}, {"x", []string{"y", "z", "b", "a"}, 1}, {"x", []string{"y", "q"}, -1}, {"x", []string{"n.a", "C"}, -1}, {"q", nil, -1},
		{"", nil, 4}, {"x", []string{"", "a"}, 4},
	}
	for i, x := range rows {
		if at := match.Field(w, api.Field{Name: x.name, Aliases: x.aliases, Type: 99, Has: true}); at != x.want {
			t.Errorf("P9.2: Field of the row %d: %d; want %d", i, at, x.want)
		}
	}
	if match.Field(api.Node{Kind: api.Record}, api.Field{Name: "a", Aliases: []string{"b"}}) != -1 || match.Field(api.Node{}, api.Field{}) != -1 {
		t.Error("P9.2: Field of no fields")
	}
}

// TestItself: a type matches itself ('What follows'), whichever node of it.
func TestItself(t *testing.T) {
	for _, text := range []string{
		`["null","boolean","int","long","float","double","bytes","string"]`,
		`{"type":"record","name":"n.a","aliases":["b"],"fields":[{"name":"x","type":{"type":"array","items":["null","a"]}},{"name":"y","type":{"type":"map","values":{"type":"array","items":"a"}}}]}`,
		`[{"type":"enum","name":"E","symbols":["X"]},{"type":"fixed","name":"F","size":0},{"type":"array","items":{"type":"map","values":"F"}},{"type":"map","values":["E","F"]}]`,
		strings.Repeat(`{"type":"array","items":`, 40) + `"int"` + strings.Repeat("}", 40),
	} {
		s := parsed(t, text)
		for i := range s.Nodes {
			if !match.Types(s, i, s, i) {
				t.Errorf("What follows: the node %d of %s does not match itself", i, text)
			}
		}
	}
}

// TestNothingChanged: what is handed in stays, with the room behind its ends (R3).
func TestNothingChanged(t *testing.T) {
	build := func() (api.Schema, api.Field) {
		fields := []api.Field{{Name: "a"}, {Name: "b"}, {Name: "behind"}}
		aliases := []string{"z", "b", "behind"}
		nodes := []api.Node{{Kind: api.Union, Branches: []int{3, 2, 1, 9}[:3]}, {Kind: api.Array, Items: 2}, {Kind: api.Record, Name: "n.a", Aliases: aliases[:1], Fields: fields[:2]}, {Kind: api.Array, Items: 3}, {Kind: api.Null}}
		return of(nodes[:4]...), api.Field{Name: "x", Aliases: aliases[:2]}
	}
	whole := func(s api.Schema, f api.Field) any {
		record := s.Nodes[2]
		return []any{s.Nodes[:5], s.Nodes[0].Branches[:4], record.Aliases[:3], record.Fields[:3], f, f.Aliases[:3]}
	}
	s, f := build()
	match.Named(s.Nodes[2], s.Nodes[2])
	match.Types(s, 3, s, 3)
	if at := match.Branch(s, 1, s, 0); at != 2 {
		t.Errorf("P9.2: Branch: %d; want 2", at)
	}
	if at := match.Field(s.Nodes[2], f); at != 1 {
		t.Errorf("P9.2: Field: %d; want 1", at)
	}
	if !reflect.DeepEqual(whole(s, f), whole(build())) {
		t.Error("R3: what was handed in is changed")
	}
}
