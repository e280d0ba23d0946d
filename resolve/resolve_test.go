package resolve_test

import (
	"math"
	"slices"
	"strconv"
	"strings"
	"testing"

	"courant/api"
	"courant/resolve"
	"courant/schema"
	"courant/value"
)

func parsed(t *testing.T, text string) api.Schema {
	t.Helper()
	s, fault := schema.Parse(text)
	if fault != api.OK {
		t.Fatalf("the schema %.200s: error %d", text, fault)
	}
	return s
}

// of is a schema of these nodes.
func of(n ...api.Node) api.Schema { return api.Schema{Nodes: n} }

func num(kind int, n int64) api.Value { return api.Value{Kind: kind, N: n} }

func octets(kind int, b string) api.Value { return api.Value{Kind: kind, B: []byte(b)} }

func list(kind int, l ...api.Value) api.Value { return api.Value{Kind: kind, L: l} }

func one(branch int64, v api.Value) api.Value {
	return api.Value{Kind: api.Union, N: branch, L: []api.Value{v}}
}

func keyed(keys string, l ...api.Value) api.Value {
	return api.Value{Kind: api.Map, Keys: strings.Fields(keys), L: l}
}

func many(n int, v api.Value) api.Value {
	return list(api.Array, slices.Repeat([]api.Value{v}, n)...)
}

// same holds two values against each other; no bytes and no list are the same, nil or empty.
func same(v, w api.Value) bool {
	return v.Kind == w.Kind && v.N == w.N && string(v.B) == string(w.B) && slices.Equal(v.Keys, w.Keys) && slices.EqualFunc(v.L, w.L, same)
}

// hold holds what is answered against what is wanted, and the answer against r.
func hold(t *testing.T, what string, w, r api.Schema, v, want api.Value, fault api.Errno) {
	t.Helper()
	got, e := resolve.Value(w, r, v)
	if e != fault || !same(got, want) {
		t.Errorf("P10.1: %s: %.200s, error %d; want %.200s, error %d", what, shown(got), e, shown(want), fault)
	}
	if e == api.OK && !value.Fits(r, 0, got) {
		t.Errorf("What follows: %s: %.200s does not fit", what, shown(got))
	}
}

func shown(v api.Value) string {
	out := strconv.Itoa(v.Kind) + ":" + strconv.FormatInt(v.N, 10) + strconv.Quote(string(v.B)) + strings.Join(v.Keys, ",")
	if len(v.L) > 9 {
		return out + "[.. " + strconv.Itoa(len(v.L)) + " ..]"
	}
	for _, x := range v.L {
		out += "[" + shown(x) + "]"
	}
	return out
}

// row is texts of two schemas, a value of the first one, and what it is read as; ErrMatch, if that is nothing.
type row struct {
	w, r    string
	v, want api.Value
}

func holdRows(t *testing.T, rows []row) {
	t.Helper()
	for i, x := range rows {
		fault := api.OK
		if x.want.Kind == 0 {
			fault = api.ErrMatch
		}
		hold(t, "row "+strconv.Itoa(i), parsed(t, x.w), parsed(t, x.r), x.v, x.want, fault)
	}
}

func array(items string) string { return `{"type":"array","items":` + items + `}` }

func dict(values string) string { return `{"type":"map","values":` + values + `}` }

func record(name, fields string) string {
	return `{"type":"record","name":"` + name + `","fields":[` + fields + `]}`
}

func enum(name, symbols string) string {
	return `{"type":"enum","name":"` + name + `","symbols":[` + symbols + `]}`
}

// TestKinds reads a value of each kind as each kind.
func TestKinds(t *testing.T) {
	texts := map[int]string{
		api.Null: `"null"`, api.Boolean: `"boolean"`, api.Int: `"int"`, api.Long: `"long"`, api.Float: `"float"`, api.Double: `"double"`, api.Bytes: `"bytes"`, api.String: `"string"`,
		api.Record: record("x", ""), api.Enum: enum("x", `"A"`), api.Array: array(`"null"`), api.Map: dict(`"null"`), api.Fixed: `{"type":"fixed","name":"x","size":3}`,
	}
	values := []api.Value{
		num(api.Null, 0), num(api.Boolean, 0), num(api.Boolean, 1), num(api.Int, math.MinInt32), num(api.Int, -1), num(api.Int, math.MaxInt32), num(api.Long, math.MinInt64), num(api.Long, -1), num(api.Long, 0), num(api.Long, math.MaxInt64),
		octets(api.Float, "\x00\xff\x7f\x80"), octets(api.Double, "\x00\xff\x7f\x80abcd"), octets(api.Bytes, ""), octets(api.Bytes, "\xff\x00"), octets(api.String, ""), octets(api.String, "a\u00e9\x00"),
		list(api.Record), num(api.Enum, 0), list(api.Array), list(api.Array, num(api.Null, 0), num(api.Null, 0)), keyed(""), keyed("b a", num(api.Null, 0), num(api.Null, 0)), octets(api.Fixed, "\xff\x00a"),
	}
	for _, v := range values {
		for kind, text := range texts {
			want, fault := api.Value{}, api.ErrMatch
			if kind == v.Kind || v.Kind == api.Int && kind == api.Long || v.Kind == api.String && kind == api.Bytes {
				want, fault = v, api.OK
				want.Kind = kind
			}
			w, r := parsed(t, texts[v.Kind]), parsed(t, text)
			hold(t, shown(v)+" as kind "+strconv.Itoa(kind), w, r, v, want, fault)
			// The same within a list, and out of and into unions.
			wants := func(x api.Value) api.Value {
				if fault != api.OK {
					return api.Value{}
				}
				return x
			}
			hold(t, shown(v)+" in an array", parsed(t, array(texts[v.Kind])), parsed(t, array(text)), list(api.Array, v), wants(list(api.Array, want)), fault)
			hold(t, shown(v)+" out of a union", parsed(t, "["+texts[v.Kind]+"]"), r, one(0, v), want, fault)
			hold(t, shown(v)+" into a union", w, parsed(t, "["+text+"]"), v, wants(one(0, want)), fault)
		}
	}
}

func TestNames(t *testing.T) {
	fixed := func(name, more string) string { return `{"type":"fixed","name":"` + name + `"` + more + `}` }
	v := octets(api.Fixed, "ab")
	holdRows(t, []row{
		{fixed("a", `,"size":2`), fixed("n.a", `,"size":2`), v, v}, {fixed("a", `,"size":2`), fixed("b", `,"size":2`), v, api.Value{}}, {fixed("n.a", `,"size":2`), fixed("b", `,"size":2,"aliases":["n.a"]`), v, v}, {fixed("a", `,"size":2`), fixed("a", `,"size":3`), v, api.Value{}},
		{record("a", ""), record("b", ""), list(api.Record), api.Value{}}, {record("n.a", ""), record("m.a", ""), list(api.Record), list(api.Record)},
		{enum("a", `"A"`), enum("b", `"A"`), num(api.Enum, 0), api.Value{}}, {enum("n.a", `"A"`), `{"type":"enum","name":"b","symbols":["B","A"],"aliases":["n.a"]}`, num(api.Enum, 0), num(api.Enum, 1)},
	})
}

func TestUnions(t *testing.T) {
	null, three := num(api.Null, 0), num(api.Int, 3)
	holdRows(t, []row{
		{`["int","null"]`, `"long"`, one(0, three), num(api.Long, 3)}, {`["int","null"]`, `"long"`, one(1, null), api.Value{}}, {`["null","int"]`, `"null"`, one(0, null), null},
		{`"int"`, `["null","long","int"]`, three, one(1, num(api.Long, 3))}, {`"int"`, `["null","int","long"]`, three, one(1, three)}, {`"int"`, `["null","string"]`, three, api.Value{}}, {`"string"`, `["int","bytes","string"]`, octets(api.String, "s"), one(1, octets(api.Bytes, "s"))},
		{`["int","null"]`, `["null","int"]`, one(0, three), one(1, three)}, {`["int","null"]`, `["null","int"]`, one(1, null), one(0, null)}, {`["int","null"]`, `["long"]`, one(0, three), one(0, num(api.Long, 3))}, {`["int","null"]`, `["long"]`, one(1, null), api.Value{}},
		{`["int","long"]`, `["long","int"]`, one(0, three), one(0, num(api.Long, 3))}, // an int is matched by the long ahead
		{array(`["int","null"]`), array(`"int"`), list(api.Array, one(0, three), one(0, three)), list(api.Array, three, three)}, {array(`["int","null"]`), array(`"int"`), list(api.Array, one(0, three), one(1, null)), api.Value{}},
		{array(`["int","null"]`), array(`["string"]`), list(api.Array), list(api.Array)}, {array(`"int"`), array(`["string"]`), list(api.Array), list(api.Array)}, {array(`"int"`), array(`["string"]`), list(api.Array, three), api.Value{}},
		{`"int"`, "[" + record("a", "") + `,` + array(`"int"`) + `]`, three, api.Value{}}, {array(`"int"`), `["int",` + dict(`"int"`) + `,` + array(`["null","long"]`) + `]`, list(api.Array, three), one(2, list(api.Array, one(1, num(api.Long, 3))))},
		// The first branch that matches is taken, though it cannot be read then.
		{record("a", ""), "[" + record("n.a", `{"name":"x","type":"int"}`) + "," + record("m.a", "") + "]", list(api.Record), api.Value{}}, {record("a", ""), "[" + record("n.a", `{"name":"x","type":"int","default":5}`) + "," + record("m.a", "") + "]", list(api.Record), one(0, list(api.Record, num(api.Int, 5)))},
		{enum("a", `"A"`), "[" + enum("n.a", `"B"`) + "," + enum("m.a", `"A"`) + "]", num(api.Enum, 0), api.Value{}}, {array(`["int","null"]`), "[" + array(`"null"`) + "]", list(api.Array, one(0, three)), api.Value{}},
	})
}

// TestUnionsWithin reads unions that are branches of unions, which no text tells.
func TestUnionsWithin(t *testing.T) {
	union := func(branches ...int) api.Node { return api.Node{Kind: api.Union, Branches: branches} }
	integer, text, null := api.Node{Kind: api.Int}, api.Node{Kind: api.String}, api.Node{Kind: api.Null}
	three := num(api.Int, 3)
	nested := of(union(1, 4), union(2, 3), null, integer, text)
	hold(t, "out of two unions", nested, of(integer), one(0, one(1, three)), three, api.OK)
	hold(t, "out of two unions, as what does not match", nested, of(text), one(0, one(1, three)), api.Value{}, api.ErrMatch)
	hold(t, "into two unions", of(integer), nested, three, one(0, one(1, three)), api.OK)
	hold(t, "into the first union, which matches all", of(text), nested, octets(api.String, "s"), api.Value{}, api.ErrMatch)
	hold(t, "out of and into two unions", nested, nested, one(0, one(0, num(api.Null, 0))), one(0, one(0, num(api.Null, 0))), api.OK)
	hold(t, "into a union without branches", of(integer), of(union()), three, api.Value{}, api.ErrMatch)
	hold(t, "into a union that leads back", of(integer), of(union(0)), three, api.Value{}, api.ErrLimit)
	hold(t, "into a union whose branches are not there but one", of(integer), of(union(-1, 9, 1), integer), three, one(2, three), api.OK)
	hold(t, "a place that stands twice", of(integer), of(union(1, 1), integer), three, one(0, three), api.OK)
}

func TestEnums(t *testing.T) {
	w := parsed(t, enum("e", `"A","B","C"`))
	rows := []struct {
		symbols string
		has     bool
		rest    string
		want    []int64 // of A, B and C; -1: not at all
	}{
		{"A B C", false, "", []int64{0, 1, 2}}, {"C A B", false, "", []int64{1, 2, 0}}, {"B", false, "", []int64{-1, 0, -1}}, {"X A Y", false, "", []int64{1, -1, -1}}, {"X", false, "", []int64{-1, -1, -1}}, {"a AA", false, "", []int64{-1, -1, -1}},
		{"X B", true, "X", []int64{0, 1, 0}}, {"X B", true, "B", []int64{1, 1, 1}}, {"A B C", true, "C", []int64{0, 1, 2}}, {"X Y", true, "Y", []int64{1, 1, 1}},
		{"X B", false, "X", []int64{-1, 1, -1}}, {"X B", true, "Z", []int64{-1, 1, -1}}, {"", true, "A", []int64{-1, -1, -1}}, {"", false, "", []int64{-1, -1, -1}}, {"B A B", true, "B", []int64{1, 0, 0}}, {"A ", true, "", []int64{0, -1, -1}},
	}
	for i, x := range rows {
		r := of(api.Node{Kind: api.Enum, Name: "e", Symbols: strings.Fields(x.symbols), Has: x.has, Default: x.rest})
		for n, place := range x.want {
			want, fault := num(api.Enum, place), api.OK
			if place < 0 {
				want, fault = api.Value{}, api.ErrMatch
			}
			hold(t, "enum, row "+strconv.Itoa(i), w, r, num(api.Enum, int64(n)), want, fault)
		}
	}
	// The writer's default plays no part.
	w.Nodes[0].Has, w.Nodes[0].Default = true, "A"
	hold(t, "the writer's default", w, of(api.Node{Kind: api.Enum, Name: "e", Symbols: []string{"A"}}), num(api.Enum, 1), api.Value{}, api.ErrMatch)
}

func TestLists(t *testing.T) {
	three := num(api.Int, 3)
	holdRows(t, []row{
		{array(`"int"`), array(`"long"`), list(api.Array, three, num(api.Int, -4)), list(api.Array, num(api.Long, 3), num(api.Long, -4))}, {array(`"int"`), array(`"string"`), list(api.Array), api.Value{}}, {array(array(`"int"`)), array(array(`"string"`)), list(api.Array), api.Value{}}, {array(`"int"`), dict(`"int"`), list(api.Array), api.Value{}},
		{dict(`"string"`), dict(`["null","bytes"]`), keyed("b \u00e9 a", octets(api.String, "1"), octets(api.String, "2"), octets(api.String, "3")), keyed("b \u00e9 a", one(1, octets(api.Bytes, "1")), one(1, octets(api.Bytes, "2")), one(1, octets(api.Bytes, "3")))},
		{dict(array(`"int"`)), dict(array(`"long"`)), keyed("k", list(api.Array, three)), keyed("k", list(api.Array, num(api.Long, 3)))}, {dict(`"int"`), dict(`"null"`), keyed(""), api.Value{}}, {dict(`"int"`), array(`"int"`), keyed(""), api.Value{}},
		{array(enum("e", `"A","B"`)), array(enum("e", `"B"`)), list(api.Array, num(api.Enum, 1)), list(api.Array, num(api.Enum, 0))}, {array(enum("e", `"A","B"`)), array(enum("e", `"B"`)), list(api.Array, num(api.Enum, 1), num(api.Enum, 0)), api.Value{}}, {dict(enum("e", `"A"`)), dict(enum("e", `"B"`)), keyed(""), keyed("")},
	})
	hold(t, "the empty key", parsed(t, dict(`"int"`)), parsed(t, dict(`"long"`)), api.Value{Kind: api.Map, Keys: []string{""}, L: []api.Value{three}}, api.Value{Kind: api.Map, Keys: []string{""}, L: []api.Value{num(api.Long, 3)}}, api.OK)
}

func TestRecords(t *testing.T) {
	ab := record("r", `{"name":"a","type":"int"},{"name":"b","type":"string"}`)
	v := list(api.Record, num(api.Int, 3), octets(api.String, "s"))
	long, text := num(api.Long, 3), octets(api.String, "s")
	rows := []struct {
		fields string
		want   []api.Value // nil: not at all
	}{
		{``, []api.Value{}}, {`{"name":"a","type":"long"},{"name":"b","type":"string"}`, []api.Value{long, text}}, {`{"name":"b","type":"string"},{"name":"a","type":"long"}`, []api.Value{text, long}}, {`{"name":"b","type":"bytes"}`, []api.Value{octets(api.Bytes, "s")}},
		{`{"name":"a","type":"string"}`, nil}, {`{"name":"a","type":"string","default":"x"}`, nil}, {`{"name":"a","type":"long","default":9}`, []api.Value{long}}, {`{"name":"a","type":["null","long"],"default":null}`, []api.Value{one(1, long)}},
		{`{"name":"c","type":"int"}`, nil}, {`{"name":"a","type":"long"},{"name":"c","type":"int"}`, nil}, {`{"name":"c","type":"int"},{"name":"a","type":"long"}`, nil}, {`{"name":"c","type":"int","default":1},{"name":"d","type":"int"}`, nil},
		{`{"name":"c","type":"int","default":-5}`, []api.Value{num(api.Int, -5)}}, {`{"name":"c","type":"null","default":null},{"name":"a","type":"long"},{"name":"d","type":"boolean","default":true}`, []api.Value{num(api.Null, 0), long, num(api.Boolean, 1)}},
		{`{"name":"x","aliases":["a"],"type":"long"}`, []api.Value{long}}, {`{"name":"x","aliases":["y","b","a"],"type":"string"}`, []api.Value{text}}, {`{"name":"a","aliases":["b"],"type":"long"}`, []api.Value{long}}, {`{"name":"x","aliases":["a"],"type":"string"}`, nil}, {`{"name":"x","aliases":["y"],"type":"int"}`, nil}, {`{"name":"x","aliases":["y"],"type":"int","default":7}`, []api.Value{num(api.Int, 7)}}, {`{"name":"x","aliases":["a"],"type":"long","default":7}`, []api.Value{long}},
		{`{"name":"a","type":"long"},{"name":"x","aliases":["a"],"type":["int"]},{"name":"y","aliases":["a"],"type":"int"}`, []api.Value{long, one(0, num(api.Int, 3)), num(api.Int, 3)}},
		{`{"name":"c","type":["long","null"],"default":1}`, []api.Value{one(0, num(api.Long, 1))}}, {`{"name":"c","type":` + array(`"int"`) + `,"default":[1,2]}`, []api.Value{list(api.Array, num(api.Int, 1), num(api.Int, 2))}}, {`{"name":"c","type":` + dict(`"bytes"`) + `,"default":{"z":"\u00ff","a":""}}`, []api.Value{keyed("z a", octets(api.Bytes, "\xff"), octets(api.Bytes, ""))}},
		{`{"name":"c","type":` + record("q", `{"name":"m","type":"int","default":2},{"name":"n","type":"string"}`) + `,"default":{"n":"k"}}`, []api.Value{list(api.Record, num(api.Int, 2), octets(api.String, "k"))}},
		{`{"name":"c","type":` + enum("e", `"A","B"`) + `,"default":"B"}`, []api.Value{num(api.Enum, 1)}}, {`{"name":"c","type":"double","default":"00ff000000000001"}`, []api.Value{octets(api.Double, "\x00\xff\x00\x00\x00\x00\x00\x01")}},
	}
	for i, x := range rows {
		want, fault := list(api.Record, x.want...), api.OK
		if x.want == nil {
			want, fault = api.Value{}, api.ErrMatch
		}
		hold(t, "record, row "+strconv.Itoa(i), parsed(t, ab), parsed(t, record("r", x.fields)), v, want, fault)
	}
	// The writer's aliases and defaults play no part.
	w := parsed(t, record("r", `{"name":"a","aliases":["c"],"type":"int","default":8}`))
	hold(t, "the writer's alias", w, parsed(t, record("r", `{"name":"c","type":"int"}`)), list(api.Record, num(api.Int, 1)), api.Value{}, api.ErrMatch)
	hold(t, "the chapter's example", w, parsed(t, record("r", `{"name":"b","type":"int","default":1}`)), list(api.Record, num(api.Int, 1)), list(api.Record, num(api.Int, 1)), api.OK)
	hold(t, "none of the fields", parsed(t, record("r", "")), w, list(api.Record), list(api.Record, num(api.Int, 8)), api.OK)
}

// TestDefaults reads fields whose defaults no schema that was parsed has: they are none.
func TestDefaults(t *testing.T) {
	w := parsed(t, record("r", ""))
	rows := []struct {
		f    api.Field
		want api.Value
	}{
		{api.Field{Has: true, Default: "1"}, num(api.Int, 1)}, {api.Field{Has: true, Default: " 1\n"}, num(api.Int, 1)}, {api.Field{Default: "1"}, api.Value{}}, {api.Field{Has: true}, api.Value{}}, {api.Field{Has: true, Default: "x"}, api.Value{}}, {api.Field{Has: true, Default: "1 1"}, api.Value{}}, {api.Field{Has: true, Default: `"1"`}, api.Value{}}, {api.Field{Has: true, Default: "2147483648"}, api.Value{}},
		{api.Field{Has: true, Default: "1", Type: -1}, api.Value{}}, {api.Field{Has: true, Default: "1", Type: 9}, api.Value{}}, {api.Field{Has: true, Default: strings.Repeat(" ", api.MaxSchema-1) + "1"}, num(api.Int, 1)}, {api.Field{Has: true, Default: strings.Repeat(" ", api.MaxSchema) + "1"}, api.Value{}},
		{api.Field{Has: true, Default: "{}", Type: 0}, api.Value{}}, // its default would have itself within it
	}
	for i, x := range rows {
		x.f.Name = "f"
		if x.f.Type == 0 && x.f.Default != "{}" {
			x.f.Type = 1
		}
		r := of(api.Node{Kind: api.Record, Name: "r", Fields: []api.Field{x.f}}, api.Node{Kind: api.Int})
		want, fault := list(api.Record, x.want), api.OK
		if x.want.Kind == 0 {
			want, fault = api.Value{}, api.ErrMatch
		}
		hold(t, "default, row "+strconv.Itoa(i), w, r, list(api.Record), want, fault)
	}
	// The same place of another record, and another place of the same one, have defaults of their own.
	fields := func(n int) string {
		return `{"name":"a","type":"int","default":` + strconv.Itoa(n) + `},{"name":"b","type":"int","default":` + strconv.Itoa(n+1) + `}`
	}
	from := parsed(t, array("["+record("p", "")+","+record("q", "")+"]"))
	to := parsed(t, array("["+record("p", fields(1))+","+record("q", fields(3))+"]"))
	pair := func(n int64) api.Value { return list(api.Record, num(api.Int, n), num(api.Int, n+1)) }
	p, q := one(0, list(api.Record)), one(1, list(api.Record))
	hold(t, "defaults of two records", from, to, list(api.Array, p, q, p, q), list(api.Array, one(0, pair(1)), one(1, pair(3)), one(0, pair(1)), one(1, pair(3))), api.OK)
}

// TestRecursive reads lists whose records lead back to themselves.
func TestRecursive(t *testing.T) {
	w := parsed(t, record("n.r", `{"name":"v","type":"int"},{"name":"next","type":["null","r"]}`))
	r := parsed(t, record("m.r", `{"name":"rest","aliases":["next"],"type":["r","null"]},{"name":"v","type":"long"},{"name":"d","type":"string","default":"x"}`))
	v, want := one(0, num(api.Null, 0)), one(1, num(api.Null, 0))
	for i := range int64(5) {
		v = one(1, list(api.Record, num(api.Int, i), v))
		want = one(0, list(api.Record, want, num(api.Long, i), octets(api.String, "x")))
	}
	hold(t, "a list of records", w, r, v.L[0], want.L[0], api.OK)
}

func TestTypeFault(t *testing.T) {
	integer, null := parsed(t, `"int"`), parsed(t, `"null"`)
	v := num(api.Int, 3)
	rows := []struct {
		w, r api.Schema
		v    api.Value
		want api.Errno
	}{
		{integer, integer, num(api.Long, 3), api.ErrType}, {integer, integer, api.Value{}, api.ErrType}, {integer, integer, num(api.Int, math.MaxInt32+1), api.ErrType}, {integer, integer, api.Value{Kind: api.Int, B: []byte{1}}, api.ErrType}, {parsed(t, `"long"`), integer, v, api.ErrType},
		{api.Schema{}, integer, v, api.ErrType}, {integer, api.Schema{}, v, api.ErrType}, {api.Schema{}, api.Schema{}, api.Value{}, api.ErrType}, {null, integer, v, api.ErrType}, {integer, null, v, api.ErrMatch},
		{parsed(t, array(`"int"`)), null, list(api.Array, num(api.Null, 0)), api.ErrType}, {parsed(t, `["int"]`), integer, one(1, v), api.ErrType}, {parsed(t, `["int"]`), integer, one(-1, v), api.ErrType}, {parsed(t, `["int"]`), integer, num(api.Union, 0), api.ErrType}, {parsed(t, enum("e", `"A"`)), integer, num(api.Enum, 1), api.ErrType},
		{parsed(t, record("r", "")), integer, list(api.Record, v), api.ErrType}, {parsed(t, dict(`"int"`)), integer, keyed("a a", v, v), api.ErrType}, {parsed(t, `"string"`), parsed(t, `"bytes"`), octets(api.String, "\xff"), api.ErrType},
		{of(api.Node{Kind: api.Fixed, Size: -1}), of(api.Node{Kind: api.Fixed, Size: -1}), octets(api.Fixed, ""), api.ErrType}, {of(api.Node{}), of(api.Node{}), api.Value{}, api.ErrType}, {of(api.Node{Kind: 15}), of(api.Node{Kind: 15}), api.Value{Kind: 15}, api.ErrType},
		{parsed(t, array(`"int"`)), integer, many(20000, num(api.Null, 0)), api.ErrType}, // ahead of the others
	}
	for i, x := range rows {
		hold(t, "fault, row "+strconv.Itoa(i), x.w, x.r, x.v, api.Value{}, x.want)
	}
}

// TestAway: places of the reader's that are not there, and kinds that there are not, match nothing.
func TestAway(t *testing.T) {
	integer := of(api.Node{Kind: api.Int})
	for _, at := range []int{-1, 2, 3, math.MaxInt, math.MinInt, 1 << 32} {
		w, r := parsed(t, array(`"int"`)), of(api.Node{Kind: api.Array, Items: at}, api.Node{Kind: api.Int})
		hold(t, "items that are not there", w, r, list(api.Array), api.Value{}, api.ErrMatch)
		hold(t, "items that are not there", w, r, list(api.Array, num(api.Int, 1)), api.Value{}, api.ErrMatch)
		hold(t, "items of the writer's that are not there", r, w, list(api.Array), api.Value{}, api.ErrMatch)
		w, r = parsed(t, record("r", `{"name":"a","type":"int"}`)), of(api.Node{Kind: api.Record, Name: "r", Fields: []api.Field{{Name: "a", Type: at, Has: true, Default: "1"}}}, api.Node{Kind: api.Int})
		hold(t, "a field's type that is not there", w, r, list(api.Record, num(api.Int, 1)), api.Value{}, api.ErrMatch)
		w = parsed(t, record("r", `{"name":"a","type":["int"]}`))
		hold(t, "a field's type that is not there", w, r, list(api.Record, one(0, num(api.Int, 1))), api.Value{}, api.ErrMatch)
		hold(t, "a branch that is not there", integer, of(api.Node{Kind: api.Union, Branches: []int{at}}, api.Node{Kind: api.Int}), num(api.Int, 1), api.Value{}, api.ErrMatch)
	}
	for _, kind := range []int{-1, 0, 15, math.MaxInt, math.MinInt} {
		hold(t, "a kind that there is not", integer, of(api.Node{Kind: kind}), num(api.Int, 1), api.Value{}, api.ErrMatch)
	}
	// Lists that lead back to themselves match only where a union ends that.
	round, union := of(api.Node{Kind: api.Array}), of(api.Node{Kind: api.Array, Items: 1}, api.Node{Kind: api.Union, Branches: []int{0}})
	none := list(api.Array)
	hold(t, "an array of itself", round, round, none, api.Value{}, api.ErrMatch)
	hold(t, "an array of itself", round, round, list(api.Array, none), api.Value{}, api.ErrMatch)
	hold(t, "an array of itself, by a union", round, union, list(api.Array, none, list(api.Array, none)), list(api.Array, one(0, none), one(0, list(api.Array, one(0, none)))), api.OK)
	hold(t, "unions of arrays of these", union, union, list(api.Array, one(0, none)), list(api.Array, one(0, none)), api.OK)
	hold(t, "out of unions of arrays", union, round, list(api.Array, one(0, none)), list(api.Array, none), api.OK)
}
