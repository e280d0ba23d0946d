package value_test

import (
	"encoding/hex"
	"math/rand"
	"slices"
	"strconv"
	"strings"
	"testing"

	"courant/api"
	"courant/json"
	"courant/value"
)

func parsed(t testing.TB, text string) api.Json {
	t.Helper()
	j, fault := json.Parse(text)
	if fault != api.OK {
		t.Fatalf("no JSON: %.80q", text)
	}
	return j
}

// refused tells whether Default tells nothing, and all of it zero (R4).
func refused(s api.Schema, node int, j api.Json) bool {
	v, is := value.Default(s, node, j)
	return !is && same(v, api.Value{})
}

// presets is kinds, with a default of the record's field b.
func presets() api.Schema {
	s := kinds()
	s.Nodes[atRecord].Fields[1].Has, s.Nodes[atRecord].Fields[1].Default = true, `"\u00e9"`
	return s
}

func TestDefaultRight(t *testing.T) {
	no, yes := leaf(api.Boolean, 0), leaf(api.Boolean, 1)
	rows := []struct {
		at   int
		text string
		want api.Value
	}{
		{atNull, "null", null()}, {atBoolean, "false", no}, {atBoolean, "true", yes},
		{atInt, "0", leaf(api.Int, 0)}, {atInt, "-0", leaf(api.Int, 0)}, {atInt, "2147483647", leaf(api.Int, 1<<31-1)}, {atInt, "-2147483648", leaf(api.Int, -1<<31)},
		{atLong, "-7", leaf(api.Long, -7)}, {atLong, "9223372036854775807", leaf(api.Long, 1<<63-1)}, {atLong, "-9223372036854775808", leaf(api.Long, -1<<63)},
		{atFloat, `"0123abef"`, octets(api.Float, "\x01\x23\xab\xef")}, {atFloat, `"\u0030\u0030ff0000"`, octets(api.Float, "\x00\xff\x00\x00")},
		{atDouble, `"0123456789abcdef"`, octets(api.Double, "\x01\x23\x45\x67\x89\xab\xcd\xef")},
		{atBytes, `""`, octets(api.Bytes, "")}, {atBytes, `"\u0000a\u007f\u0080\u00ff"`, octets(api.Bytes, "\x00a\x7f\x80\xff")},
		{atFixed, `"\u00ffab"`, octets(api.Fixed, "\xffab")}, {atNoBytes, `""`, octets(api.Fixed, "")},
		{atString, `""`, octets(api.String, "")}, {atString, `"a\u00ff\u0100\ud83d\ude00"`, octets(api.String, "a\u00ff\u0100\U0001f600")},
		{atEnum, `"X"`, leaf(api.Enum, 0)}, {atEnum, `"Z"`, leaf(api.Enum, 2)},
		{atArray, "[]", list(api.Array)}, {atArray, "[true,false,true]", list(api.Array, yes, no, yes)},
		{atMap, "{}", pairs(nil)}, {atMap, `{"b":null,"":null,"a":null}`, pairs([]string{"b", "", "a"}, union(0, null()), union(0, null()), union(0, null()))},
		{atUnion, "null", union(0, null())},
		{atEmptyRecord, "{}", list(api.Record)},
		{atRecord, `{"a":1,"b":"x"}`, list(api.Record, leaf(api.Int, 1), octets(api.String, "x"))}, {atRecord, `{"b":"x","a":1}`, list(api.Record, leaf(api.Int, 1), octets(api.String, "x"))},
		{atRecord, `{"a":1}`, list(api.Record, leaf(api.Int, 1), octets(api.String, "\u00e9"))},
		{atLost, "[]", list(api.Array)}, {atBelow, "{}", pairs(nil)}, {atBroken, "null", union(0, null())},
	}
	for _, r := range rows {
		v, is := value.Default(presets(), r.at, parsed(t, r.text))
		if !is || !same(v, r.want) || !value.Fits(presets(), r.at, v) {
			t.Errorf("P4.2: Default of %s for node %d: %v, %v; want %v", r.text, r.at, v, is, r.want)
		}
	}
}

func TestDefaultWrong(t *testing.T) {
	rows := []struct {
		at    int
		texts []string
	}{
		{atNull, []string{"false", "true", "0", `"null"`, `""`, "[]", "{}"}},
		{atBoolean, []string{"null", "0", "1", `"true"`, "[]", "{}"}},
		{atInt, []string{"null", "true", `"1"`, "[]", "[1]", "{}", "2147483648", "-2147483649", "4294967296", "9223372036854775807", "9999999999999999999", "-9999999999999999999"}},
		{atLong, []string{"null", "false", `"1"`, "[1]", "{}", "9223372036854775808", "-9223372036854775809", "9999999999999999999", "-9999999999999999999"}},
		{atFloat, []string{"null", "1", "12345678", "[]", "{}", `""`, `"0123abe"`, `"0123abeff"`, `"0123456789abcdef"`, `"0123ABEF"`, `"0123abeg"`, `"0123ab f"`, `"+123abef"`, `"0x23abef"`, `"0123ab\u00e9"`, `"/123abef"`, `":123abef"`, "\"`123abef\"", `"0123ab\u0000f"`, "[48,49,50,51,48,49,50,51]"}},
		{atDouble, []string{"null", "1", "0", "1234567890123456", "[]", "{}", `""`, `"0123abef"`, `"0123456789abcde"`, `"0123456789abcdef0"`, `"0123456789abcdeF"`, `"0123456789abcdeg"`}},
		{atBytes, []string{"null", "true", "1", "[]", "{}", "[1]", `"\u0100"`, `"ab\u20ac"`, `"\ufffd"`, `"\ud83d\ude00"`}},
		{atFixed, []string{"null", "1", "[]", "{}", `""`, `"ab"`, `"abcd"`, `"ab\u0100"`, `"a\u00ff"`, `"a\u0100"`}},
		{atNoBytes, []string{"null", "0", "[]", "{}", `"a"`}},
		{atString, []string{"null", "true", "1", "[]", "{}", `["a"]`}},
		{atEnum, []string{"null", "0", "1", `""`, `"x"`, `"XX"`, `"W"`, "[]", `["X"]`, "{}"}},
		{atArray, []string{"null", "true", "1", `""`, "{}", "[1]", "[true,1]", "[null]", "[[true]]", `{"a":true}`}},
		{atMap, []string{"null", "true", "1", `""`, "[]", "[null]", `{"a":1}`, `{"a":null,"b":true}`}},
		{atUnion, []string{"1", "[]", "[true]", "true", "{}", "[null]", `{"int":1}`, `""`}},
		{atRecord, []string{"null", "true", "1", `""`, "[]", `[1,"x"]`, "{}", `{"b":"x"}`, `{"a":1,"b":"x","c":1}`, `{"a":1,"c":1}`, `{"a":1,"":1}`, `{"a":"x","b":1}`, `{"a":1,"b":1}`, `{"a":1,"b":null}`, `{"a":1,"B":"x"}`, `{"a":2147483648}`}},
		{atEmptyRecord, []string{"null", "[]", `""`, `{"a":1}`, `{"":null}`}},
		{atLost, []string{"[1]", "[null]", "null", "{}"}},
		{atBelow, []string{`{"a":null}`, "null", "[]"}},
		{atFar, []string{"{}", `{"a":1,"b":1}`, `{"a":1,"b":null}`}},
		{atBroken, []string{"1", "true"}},
		{atHollow, []string{"null", "{}", "[]"}},
		{atWild, []string{"null", "0", `""`, "[]", "{}"}}, {atZero, []string{"null", "0", `""`, "[]", "{}"}},
		{-1, []string{"null", "{}"}}, {places, []string{"null", "{}"}}, {1 << 62, []string{"null"}}, {-1 << 63, []string{"null"}},
	}
	for _, r := range rows {
		for _, text := range r.texts {
			if !refused(presets(), r.at, parsed(t, text)) {
				t.Errorf("P4.2: Default of %s for node %d is not refused", text, r.at)
			}
		}
	}
	if !refused(api.Schema{}, 0, parsed(t, "null")) {
		t.Error("P4.2: Default of no node is not refused")
	}
}

// TestDefaultNotRight: what json.Right refuses is refused, also where the fault plays no part in the value.
func TestDefaultNotRight(t *testing.T) {
	rows := []struct {
		at int
		j  api.Json
	}{
		{atNull, api.Json{}}, {atNull, api.Json{Kind: 8}}, {atNull, api.Json{Kind: -1}}, {atNull, api.Json{Kind: api.JNull, Text: "null"}}, {atNull, api.Json{Kind: api.JNull, L: []api.Json{{Kind: api.JNull}}}}, {atNull, api.Json{Kind: api.JNull, Keys: []string{"a"}}},
		{atBoolean, api.Json{Kind: api.JTrue, Text: "true"}}, {atInt, api.Json{Kind: api.JNumber}}, {atInt, api.Json{Kind: api.JNumber, Text: "+1"}}, {atInt, api.Json{Kind: api.JNumber, Text: "01"}}, {atInt, api.Json{Kind: api.JNumber, Text: "-0"}}, {atLong, api.Json{Kind: api.JNumber, Text: "00000000000000000001"}},
		{atInt, api.Json{Kind: api.JNumber, Text: "1", Keys: []string{"a"}}},
		{atString, api.Json{Kind: api.JString, Text: "\xff"}}, {atString, api.Json{Kind: api.JString, Text: "a", L: []api.Json{{Kind: api.JNull}}}}, {atBytes, api.Json{Kind: api.JString, Text: "\xe9"}},
		{atArray, api.Json{Kind: api.JArray, Text: "x"}}, {atArray, api.Json{Kind: api.JArray, L: []api.Json{{Kind: api.JTrue}}, Keys: []string{"a"}}}, {atArray, api.Json{Kind: api.JArray, L: []api.Json{{Kind: api.JTrue, Text: "x"}}}},
		{atMap, api.Json{Kind: api.JObject, Text: "x"}}, {atMap, api.Json{Kind: api.JObject, Keys: []string{"a"}}}, {atMap, api.Json{Kind: api.JObject, L: []api.Json{{Kind: api.JNull}}}}, {atMap, api.Json{Kind: api.JObject, Keys: []string{"\xff"}, L: []api.Json{{Kind: api.JNull}}}}, {atMap, api.Json{Kind: api.JObject, Keys: []string{"a", "a"}, L: []api.Json{{Kind: api.JNull}, {Kind: api.JNull}}}},
		{atRecord, api.Json{Kind: api.JObject, Keys: []string{"a"}}}, {atRecord, api.Json{Kind: api.JObject, Keys: []string{"a", "a"}, L: []api.Json{{Kind: api.JNumber, Text: "1"}, {Kind: api.JNumber, Text: "1"}}}},
	}
	for i, r := range rows {
		if !refused(presets(), r.at, r.j) {
			t.Errorf("P4.2: Default of the row %d, which is not right, is not refused", i)
		}
	}
	deep := api.Json{Kind: api.JArray}
	for range 3000000 {
		deep = api.Json{Kind: api.JArray, L: []api.Json{deep}}
	}
	if s := (api.Schema{Nodes: []api.Node{{Kind: api.Array}}}); !refused(s, 0, deep) {
		t.Error("P4.2: Default of what is too deep is not refused")
	}
}

// TestDefaultFields: fields that are not given, with and without defaults that are right.
func TestDefaultFields(t *testing.T) {
	record := func(f ...api.Field) api.Schema {
		return api.Schema{Nodes: []api.Node{{Kind: api.Record, Name: "r", Fields: f}, {Kind: api.Int}, {Kind: api.Union, Branches: []int{3, 0}}, {Kind: api.Null}}}
	}
	for _, text := range []string{"", "x", "1 2", "[", `"1"`, "null", "2147483648", "1.0", strings.Repeat(" ", api.MaxSchema) + "1"} {
		s := record(api.Field{Name: "a", Type: 1, Has: true, Default: text})
		if !refused(s, 0, parsed(t, "{}")) {
			t.Errorf("P4.2: a field whose default is %.20q is not refused", text)
		}
		if v, is := value.Default(s, 0, parsed(t, `{"a":5}`)); !is || !same(v, list(api.Record, leaf(api.Int, 5))) {
			t.Errorf("P4.2: a field's default %.20q plays a part where the field is given", text)
		}
	}
	if !refused(record(api.Field{Name: "a", Type: 1, Default: "1"}), 0, parsed(t, "{}")) {
		t.Error("P4.2: a field's default counts, though Has is false")
	}
	s := record(api.Field{Name: "a", Type: 1, Has: true, Default: " 1\n"}, api.Field{Name: "b", Type: 2, Has: true, Default: "null"})
	if v, is := value.Default(s, 0, parsed(t, "{}")); !is || !same(v, list(api.Record, leaf(api.Int, 1), union(0, null()))) {
		t.Errorf("P4.2: a record of defaults: %v, %v", v, is)
	}
	for _, text := range []string{`{"b":{}}`, `{"b":{"a":1}}`, `{"a":null}`} {
		if !refused(s, 0, parsed(t, text)) {
			t.Errorf("P4.2: %s is not refused", text)
		}
	}
	// An alias is no name, and of two fields of one name both are given what stands under it.
	if !refused(record(api.Field{Name: "a", Aliases: []string{"b"}, Type: 1}), 0, parsed(t, `{"b":1}`)) {
		t.Error("P4.2: a field is given by its alias")
	}
	if v, is := value.Default(record(api.Field{Name: "a", Type: 1}, api.Field{Name: "a", Type: 1}), 0, parsed(t, `{"a":1}`)); !is || !same(v, list(api.Record, leaf(api.Int, 1), leaf(api.Int, 1))) {
		t.Errorf("P4.2: two fields of one name: %v, %v", v, is)
	}
}

// TestDefaultOfSymbols: R10: of ties what stands first counts.
func TestDefaultOfSymbols(t *testing.T) {
	s := api.Schema{Nodes: []api.Node{{Kind: api.Enum, Symbols: []string{"X", "Y", "Y", "", "1"}, Has: true, Default: "X"}}}
	for text, n := range map[string]int64{`"Y"`: 1, `""`: 3} {
		if v, is := value.Default(s, 0, parsed(t, text)); !is || !same(v, leaf(api.Enum, n)) {
			t.Errorf("P4.2: the symbol %s: %v, %v", text, v, is)
		}
	}
	for _, text := range []string{"null", "true", "1", "[]", "{}"} {
		if !refused(s, 0, parsed(t, text)) {
			t.Errorf("P4.2: %s, which is no string, is a symbol", text)
		}
	}
	if !refused(s, 0, parsed(t, `"Z"`)) {
		t.Error("P4.2: an enum's own default plays a part")
	}
}

func TestDefaultDepth(t *testing.T) {
	arrays := api.Schema{Nodes: []api.Node{{Kind: api.Array}}}
	nested := func(n int) string { return strings.Repeat("[", n) + strings.Repeat("]", n) }
	if v, is := value.Default(arrays, 0, parsed(t, nested(api.MaxDepth))); !is || value.Depth(v) != api.MaxDepth {
		t.Errorf("P4.2: MaxDepth arrays: %v", is)
	}
	// Each union is a depth of its own, which JSON has not.
	for n := range 5 {
		unions := api.Schema{Nodes: []api.Node{{Kind: api.Array, Items: 1}, {Kind: api.Union, Branches: []int{0}}}}
		text := nested(api.MaxDepth/2 + n)
		v, is := value.Default(unions, 0, parsed(t, text))
		if is != (n == 0) || is && value.Depth(v) != api.MaxDepth-1 {
			t.Errorf("P4.2: unions with %d arrays: %v", api.MaxDepth/2+n, is)
		}
		v, is = value.Default(unions, 1, parsed(t, text))
		if is != (n == 0) || is && value.Depth(v) != api.MaxDepth {
			t.Errorf("P4.2: a union with %d arrays: %v", api.MaxDepth/2+n, is)
		}
	}
	// A chain of records by their defaults, each in the next one.
	for _, n := range []int{api.MaxDepth - 1, api.MaxDepth} {
		s := api.Schema{}
		for i := range n {
			s.Nodes = append(s.Nodes, api.Node{Kind: api.Record, Name: "r", Fields: []api.Field{{Name: "a", Type: i + 1, Has: true, Default: "{}"}}})
		}
		s.Nodes[n-1].Fields[0].Default = "null"
		s.Nodes = append(s.Nodes, api.Node{Kind: api.Null})
		if v, is := value.Default(s, 0, parsed(t, "{}")); is != (n < api.MaxDepth) || is && value.Depth(v) != api.MaxDepth {
			t.Errorf("P4.2: %d records, one in the other: %v", n, is)
		}
	}
	itself := api.Schema{Nodes: []api.Node{{Kind: api.Union, Branches: []int{0}}}}
	if !refused(itself, 0, parsed(t, "null")) {
		t.Error("P4.2: a union of itself is not refused")
	}
}

func TestDefaultItems(t *testing.T) {
	s := api.Schema{Nodes: []api.Node{{Kind: api.Array, Items: 1}, {Kind: api.Int}, {Kind: api.Map, Items: 1}, {Kind: api.Array, Items: 4}, {Kind: api.Union, Branches: []int{1}}, {Kind: api.Array}}}
	array := func(n int) api.Json {
		return api.Json{Kind: api.JArray, L: slices.Repeat([]api.Json{{Kind: api.JNumber, Text: "1"}}, n)}
	}
	object := func(n int) api.Json {
		j := array(n)
		j.Kind = api.JObject
		for i := range n {
			j.Keys = append(j.Keys, strconv.Itoa(i))
		}
		return j
	}
	rows := []struct {
		at int
		j  api.Json
		is bool
	}{
		{0, array(api.MaxItems - 1), true}, {0, array(api.MaxItems), false}, {0, array(300000), false},
		{2, object(api.MaxItems - 1), true}, {2, object(api.MaxItems), false}, {2, object(300000), false},
		{3, array((api.MaxItems - 2) / 2), true}, {3, array(api.MaxItems / 2), false}, {3, array(api.MaxItems - 1), false},
	}
	for i, r := range rows {
		v, is := value.Default(s, r.at, r.j)
		if is != r.is || is && value.Count(v) != 1+len(r.j.L)*(1+r.at/3) || !is && !same(v, api.Value{}) {
			t.Errorf("P4.2: %d values, in the row %d: %v", len(r.j.L), i, is)
		}
	}
	wide := api.Schema{Nodes: []api.Node{{Kind: api.Record}, {Kind: api.Int}}}
	for i := range api.MaxItems {
		wide.Nodes[0].Fields = append(wide.Nodes[0].Fields, api.Field{Name: "f" + strconv.Itoa(i), Type: 1, Has: true, Default: "1"})
	}
	if !refused(wide, 0, parsed(t, "{}")) {
		t.Error("P4.2: a record of MaxItems fields is not refused")
	}
	wide.Nodes[0].Fields = wide.Nodes[0].Fields[1:]
	if v, is := value.Default(wide, 0, parsed(t, "{}")); !is || value.Count(v) != api.MaxItems {
		t.Error("P4.2: a record of MaxItems - 1 fields is refused")
	}
}

// doubling is records each of which has two of the next one, the last one being a string, with a default of its own.
func doubling(n int, text string) api.Schema {
	s := api.Schema{}
	for i := range n {
		s.Nodes = append(s.Nodes, api.Node{Kind: api.Record, Fields: []api.Field{{Name: "a", Type: i + 1, Has: true, Default: "{}"}, {Name: "b", Type: i + 1, Has: true, Default: "{}"}}})
	}
	last := &s.Nodes[n-1].Fields
	(*last)[0].Default, (*last)[1].Default = text, text
	s.Nodes = append(s.Nodes, api.Node{Kind: api.String})
	return s
}

// TestDefaultDoubles: values of defaults are counted, too; that many of them are refused is told at once.
func TestDefaultDoubles(t *testing.T) {
	text := `"` + strings.Repeat("a", 1000) + `"`
	if v, is := value.Default(doubling(12, text), 0, parsed(t, "{}")); !is || value.Count(v) != 1<<13-1 {
		t.Errorf("P4.2: 2^13 - 1 values: %v", is)
	}
	for _, n := range []int{13, 30, 60} {
		if !refused(doubling(n, text), 0, parsed(t, "{}")) {
			t.Errorf("P4.2: 2^%d values are not refused", n+1)
		}
	}
}

// TestDefaultOwn: R3: what is told is new memory, no two lists of it are one, and what is given stays.
func TestDefaultOwn(t *testing.T) {
	s := doubling(3, `"x"`)
	j := parsed(t, `{"a":{"a":{"a":"y"}}}`)
	want, is := value.Default(s, 0, j)
	v, again := value.Default(s, 0, j)
	if !is || !again || !same(v, want) {
		t.Fatalf("P4.2: %v, %v", v, want)
	}
	spoil(v.L[1].L[0]) // which came of the same defaults as what stands beside it
	if !same(v.L[1].L[1], want.L[1].L[1]) || !same(v.L[0], want.L[0]) {
		t.Errorf("R3: two lists of %v share memory", v)
	}
	spoil(v)
	if third, _ := value.Default(s, 0, j); !same(third, want) {
		t.Error("R3: what was told shares memory with what was given")
	}
	object := parsed(t, `{"k":null,"l":null}`)
	v, _ = value.Default(kinds(), atMap, object)
	spoil(v)
	if json.Print(object) != `{"k":null,"l":null}` {
		t.Error("R3: the keys that were told are those that were given")
	}
}

// form makes schemas, and values that fit them, out of chance.
type form struct{ *rand.Rand }

func (f form) schema() api.Schema {
	size := 3 + f.Intn(10)
	s := api.Schema{Nodes: make([]api.Node, size)}
	for i := range s.Nodes {
		// Most places are those of later nodes, so that most types have values that end.
		place := func() int {
			if f.Intn(8) == 0 {
				return f.Intn(size)
			}
			return min(i+1+f.Intn(size), size-1)
		}
		n := api.Node{Kind: 1 + f.Intn(14)}
		if i == size-1 {
			n.Kind = 1 + f.Intn(8)
		}
		switch n.Kind {
		case api.Record:
			for k := range f.Intn(4) {
				n.Fields = append(n.Fields, api.Field{Name: string(rune('a' + k)), Type: place()})
			}
		case api.Enum:
			n.Symbols = []string{"X", "Y", "Z"}[:1+f.Intn(3)]
		case api.Array, api.Map:
			n.Items = place()
		case api.Union:
			for range 1 + f.Intn(3) {
				n.Branches = append(n.Branches, place())
			}
		case api.Fixed:
			n.Size = f.Intn(4)
		}
		s.Nodes[i] = n
	}
	return s
}

func (f form) text() string {
	pieces := []string{"a", "b", "\x00", "\u0080", "\u00ff", "\"", "\\"}
	out := ""
	for range f.Intn(4) {
		out += pieces[f.Intn(len(pieces))]
	}
	return out
}

func (f form) number() int64 {
	return []int64{0, 1, -1, 1<<31 - 1, -1 << 31, f.Int63n(1 << 31)}[f.Intn(6)]
}

// value is one that fits the node, and false, if none was found so deep. Unions are of their first branch, if that is asked for.
func (f form) value(s api.Schema, at, depth int, first bool) (api.Value, bool) {
	n := s.Nodes[at]
	out := api.Value{Kind: n.Kind}
	var inner []int
	switch n.Kind {
	case api.Boolean:
		out.N = f.Int63n(2)
	case api.Int:
		out.N = f.number()
	case api.Long:
		out.N = f.number() << uint(f.Intn(33))
	case api.Enum:
		out.N = f.Int63n(int64(len(n.Symbols)))
	case api.Float, api.Double, api.Fixed:
		out.B = make([]byte, map[int]int{api.Float: 4, api.Double: 8, api.Fixed: n.Size}[n.Kind])
		f.Read(out.B)
	case api.Bytes, api.String:
		out.B = []byte(f.text())
	case api.Record:
		for _, field := range n.Fields {
			inner = append(inner, field.Type)
		}
	case api.Array, api.Map:
		for i := range f.Intn(4) {
			inner = append(inner, n.Items)
			if n.Kind == api.Map {
				out.Keys = append(out.Keys, f.text()+strconv.Itoa(i))
			}
		}
	case api.Union:
		if !first {
			out.N = f.Int63n(int64(len(n.Branches)))
		}
		inner = []int{n.Branches[out.N]}
	}
	for _, at := range inner {
		v, is := api.Value{}, false
		if depth > 1 {
			v, is = f.value(s, at, depth-1, first)
		}
		if !is {
			return v, false
		}
		out.L = append(out.L, v)
	}
	return out, true
}

// written is the JSON that v is the default of, at that node; fields whose values a default tells may be left out.
func (f form) written(s api.Schema, at int, v api.Value) api.Json {
	n := s.Nodes[at]
	out := api.Json{}
	switch n.Kind {
	case api.Null:
		out.Kind = api.JNull
	case api.Boolean:
		out.Kind = []int{api.JFalse, api.JTrue}[v.N]
	case api.Int, api.Long:
		out = api.Json{Kind: api.JNumber, Text: strconv.FormatInt(v.N, 10)}
	case api.Float, api.Double:
		out = api.Json{Kind: api.JString, Text: hex.EncodeToString(v.B)}
	case api.Bytes, api.Fixed:
		out.Kind = api.JString
		for _, b := range v.B {
			out.Text += string(rune(b))
		}
	case api.String:
		out = api.Json{Kind: api.JString, Text: string(v.B)}
	case api.Enum:
		out = api.Json{Kind: api.JString, Text: n.Symbols[v.N]}
	case api.Union:
		return f.written(s, n.Branches[v.N], v.L[0])
	case api.Array:
		out.Kind = api.JArray
		for _, x := range v.L {
			out.L = append(out.L, f.written(s, n.Items, x))
		}
	case api.Map:
		out.Kind, out.Keys = api.JObject, v.Keys
		for _, x := range v.L {
			out.L = append(out.L, f.written(s, n.Items, x))
		}
	case api.Record:
		out.Kind = api.JObject
		for _, i := range f.Perm(len(n.Fields)) {
			x := f.written(s, n.Fields[i].Type, v.L[i])
			if field := n.Fields[i]; field.Has && tells(s, field, v.L[i]) && f.Intn(2) == 0 {
				continue
			}
			out.Keys, out.L = append(out.Keys, n.Fields[i].Name), append(out.L, x)
		}
	}
	return out
}

// tells tells whether the default of a field is v.
func tells(s api.Schema, field api.Field, v api.Value) bool {
	j, fault := json.Parse(field.Default)
	x, is := value.Default(s, field.Type, j)
	return fault == api.OK && is && same(x, v)
}

// preset gives some fields defaults that a value of theirs is.
func (f form) preset(s api.Schema) {
	for i := range s.Nodes {
		fields := s.Nodes[i].Fields
		for k := range fields {
			if v, is := f.value(s, fields[k].Type, 5, true); is && f.Intn(2) == 0 {
				fields[k].Has, fields[k].Default = true, json.Print(f.written(s, fields[k].Type, v))
			}
		}
	}
}

// fits is the chapter's word, read once more: one that may be nested as deep as calls are.
func fits(s api.Schema, at int, v api.Value) bool {
	if at < 0 || at >= len(s.Nodes) || s.Nodes[at].Kind != v.Kind {
		return false
	}
	n, number, octets, inner := s.Nodes[at], false, false, make([]int, len(v.L))
	size := 0 // of L
	switch v.Kind {
	case api.Null:
	case api.Boolean:
		number = v.N>>1 == 0
	case api.Int:
		number = int64(int32(v.N)) == v.N
	case api.Long:
		number = true
	case api.Float:
		octets = len(v.B) == 4
	case api.Double:
		octets = len(v.B) == 8
	case api.Bytes:
		octets = true
	case api.String:
		octets = strings.ToValidUTF8(string(v.B), "") == string(v.B)
	case api.Fixed:
		octets = len(v.B) == n.Size
	case api.Enum:
		number = uint64(v.N) < uint64(len(n.Symbols))
	case api.Record:
		size = len(n.Fields)
	case api.Array, api.Map:
		size = len(v.L)
	case api.Union:
		number, size = uint64(v.N) < uint64(len(n.Branches)), 1
	default:
		return false
	}
	named := map[int]string{api.Boolean: "N", api.Int: "N", api.Long: "N", api.Enum: "N", api.Union: "N", api.Float: "B", api.Double: "B", api.Bytes: "B", api.String: "B", api.Fixed: "B"}[v.Kind]
	if named == "N" && !number || named == "B" && !octets || named != "N" && v.N != 0 || named != "B" && len(v.B) > 0 || len(v.L) != size {
		return false
	}
	seen := map[string]bool{}
	for _, key := range v.Keys {
		if v.Kind != api.Map || seen[key] || strings.ToValidUTF8(key, "") != key {
			return false
		}
		seen[key] = true
	}
	if v.Kind == api.Map && len(v.Keys) != len(v.L) {
		return false
	}
	for i, x := range v.L {
		switch v.Kind {
		case api.Record:
			inner[i] = n.Fields[i].Type
		case api.Union:
			inner[i] = n.Branches[v.N]
		default:
			inner[i] = n.Items
		}
		if !fits(s, inner[i], x) {
			return false
		}
	}
	return true
}

// turn changes a value, or one within it.
func (f form) turn(v api.Value) api.Value {
	if len(v.L) > 0 && f.Intn(4) > 0 {
		i := f.Intn(len(v.L))
		v.L = slices.Clone(v.L)
		v.L[i] = f.turn(v.L[i])
		return v
	}
	switch f.Intn(8) {
	case 0:
		v.N += f.Int63n(5) - 2
	case 1:
		v.B = append(slices.Clone(v.B), byte(f.Intn(256)))
	case 2:
		v.B = v.B[:len(v.B)*f.Intn(2)]
	case 3:
		v.L = v.L[:len(v.L)*f.Intn(2)]
	case 4:
		v.L = append(slices.Clone(v.L), v)
	case 5:
		v.Keys = slices.Repeat([]string{f.text()}, len(v.L))
	case 6:
		v.Kind += f.Intn(3) - 1
	case 7:
		v.N = f.Int63() << uint(f.Intn(2))
	}
	return v
}

func TestFitsAsRead(t *testing.T) {
	f := form{rand.New(rand.NewSource(1))}
	got := [2]int{}
	for range 30000 {
		s := f.schema()
		at := f.Intn(len(s.Nodes))
		v, is := f.value(s, at, 6, false)
		if !is {
			continue
		}
		if !value.Fits(s, at, v) {
			t.Fatalf("P4.1: %v does not fit node %d of %v", v, at, s)
		}
		for range 4 {
			turned := f.turn(v)
			where := at
			if f.Intn(5) == 0 {
				where = f.Intn(len(s.Nodes)+2) - 1
			}
			want := fits(s, where, turned)
			if value.Fits(s, where, turned) != want {
				t.Fatalf("P4.1: %v fits node %d of %v: want %v", turned, where, s, want)
			}
			if want {
				got[1]++
			} else {
				got[0]++
			}
		}
		if depth := value.Depth(v); depth > 6 || value.Count(v) != len(told(v, 1)) {
			t.Fatalf("P4.1: Depth %d, Count %d of %v", depth, value.Count(v), v)
		}
	}
	if got[0] < 5000 || got[1] < 5000 {
		t.Errorf("too few of a kind: %v", got)
	}
}

func TestDefaultOfWritten(t *testing.T) {
	f := form{rand.New(rand.NewSource(2))}
	n := 0
	for range 30000 {
		s := f.schema()
		f.preset(s)
		at := f.Intn(len(s.Nodes))
		v, is := f.value(s, at, 8, true)
		if !is {
			continue
		}
		j := f.written(s, at, v)
		if got, is := value.Default(s, at, j); !is || !same(got, v) {
			t.Fatalf("P4.2: Default of %s for node %d of %v: %v, %v; want %v", json.Print(j), at, s, got, is, v)
		}
		n++
	}
	if n < 10000 {
		t.Errorf("too few: %d", n)
	}
}

// TestDefaultFits holds 'What follows': whatever JSON is given for whatever node, what is told fits.
func TestDefaultFits(t *testing.T) {
	f := form{rand.New(rand.NewSource(3))}
	n := 0
	for range 30000 {
		s := f.schema()
		f.preset(s)
		from, at := f.Intn(len(s.Nodes)), f.Intn(len(s.Nodes))
		v, is := f.value(s, from, 5, false)
		if !is {
			continue
		}
		got, is := value.Default(s, at, f.written(s, from, v))
		if is && (!value.Fits(s, at, got) || !fits(s, at, got) || value.Depth(got) > api.MaxDepth || value.Count(got) > api.MaxItems) || !is && !same(got, api.Value{}) {
			t.Fatalf("What follows: %v does not fit node %d of %v", got, at, s)
		}
		if is && from != at {
			n++
		}
	}
	if n < 1000 {
		t.Errorf("too few: %d", n)
	}
}
