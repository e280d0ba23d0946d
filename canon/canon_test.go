package canon_test

import (
	"math"
	"reflect"
	"slices"
	"strings"
	"testing"

	"courant/api"
	"courant/canon"
	"courant/names"
	"courant/schema"
)

func of(nodes ...api.Node) api.Schema { return api.Schema{Nodes: nodes} }

func leaf(kind int) api.Node { return api.Node{Kind: kind} }

func union(branches ...int) api.Node { return api.Node{Kind: api.Union, Branches: branches} }

func array(items int) api.Node { return api.Node{Kind: api.Array, Items: items} }

func mapping(values int) api.Node { return api.Node{Kind: api.Map, Items: values} }

func record(name string, fields ...api.Field) api.Node {
	return api.Node{Kind: api.Record, Name: name, Fields: fields}
}

func enum(name string, symbols ...string) api.Node {
	return api.Node{Kind: api.Enum, Name: name, Symbols: symbols}
}

func fixed(name string, size int) api.Node {
	return api.Node{Kind: api.Fixed, Name: name, Size: size}
}

func field(name string, at int) api.Field { return api.Field{Name: name, Type: at} }

func parse(t *testing.T, text string) api.Schema {
	t.Helper()
	s, e := schema.Parse(text)
	if e != api.OK {
		t.Fatalf("Parse(%.200s): error %d", text, e)
	}
	return s
}

// row is a schema with its two texts; Canonical's, if empty, is as Print's.
type row struct {
	s            api.Schema
	print, plain string
}

func hold(t *testing.T, rows []row) {
	t.Helper()
	for _, x := range rows {
		if got := canon.Print(x.s); got != x.print {
			t.Errorf("P6.1: Print(%+v): %s; want %s", x.s, got, x.print)
		}
		plain := x.plain
		if plain == "" {
			plain = x.print
		}
		if got := canon.Canonical(x.s); got != plain {
			t.Errorf("P6.2: Canonical(%+v): %s; want %s", x.s, got, plain)
		}
	}
}

func TestKinds(t *testing.T) {
	words := []string{"null", "boolean", "int", "long", "float", "double", "bytes", "string"}
	for _, word := range words {
		hold(t, []row{{s: of(leaf(names.Primitive(word))), print: `"` + word + `"`}})
	}
	hold(t, []row{
		{s: of(array(1), leaf(api.Int)), print: `{"type":"array","items":"int"}`},
		{s: of(mapping(1), array(2), mapping(3), leaf(api.Long)), print: `{"type":"map","values":{"type":"array","items":{"type":"map","values":"long"}}}`},
		{s: of(union(1, 2), leaf(api.Null), leaf(api.String)), print: `["null","string"]`},
		{s: of(union(2, 1, 2, 2), leaf(api.Null), leaf(api.String)), print: `["string","null","string","string"]`},
		{s: of(union()), print: `[]`},
		{s: of(union(1), union(2), union()), print: `[[[]]]`},
		{s: of(record("a")), print: `{"type":"record","name":".a","fields":[]}`, plain: `{"name":"a","type":"record","fields":[]}`},
		{s: of(record("a", field("b", 1), field("c", 2)), leaf(api.Int), array(1)), print: `{"type":"record","name":".a","fields":[{"name":"b","type":"int"},{"name":"c","type":{"type":"array","items":"int"}}]}`, plain: `{"name":"a","type":"record","fields":[{"name":"b","type":"int"},{"name":"c","type":{"type":"array","items":"int"}}]}`},
		{s: of(enum("a")), print: `{"type":"enum","name":".a","symbols":[]}`, plain: `{"name":"a","type":"enum","symbols":[]}`},
		{s: of(enum("n.a", "B", "A", "B")), print: `{"type":"enum","name":"n.a","symbols":["B","A","B"]}`, plain: `{"name":"n.a","type":"enum","symbols":["B","A","B"]}`},
		{s: of(fixed("a", 12)), print: `{"type":"fixed","name":".a","size":12}`, plain: `{"name":"a","type":"fixed","size":12}`},
		{s: of(fixed("a", 0)), print: `{"type":"fixed","name":".a","size":0}`, plain: `{"name":"a","type":"fixed","size":0}`},
		{s: of(fixed("a", -1)), print: `{"type":"fixed","name":".a","size":0}`, plain: `{"name":"a","type":"fixed","size":0}`},
		{s: of(fixed("a", math.MinInt)), print: `{"type":"fixed","name":".a","size":0}`, plain: `{"name":"a","type":"fixed","size":0}`},
		{s: of(fixed("a", math.MaxInt)), print: `{"type":"fixed","name":".a","size":9223372036854775807}`, plain: `{"name":"a","type":"fixed","size":9223372036854775807}`},
	})
}

// TestKeys: what may be there or not, and what of it Canonical leaves out.
func TestKeys(t *testing.T) {
	full := record("n.a", api.Field{Name: "b", Aliases: []string{"c", "int"}, Type: 1, Has: true, Default: "7"}, api.Field{Name: "d", Aliases: []string{"e"}, Type: 1}, api.Field{Name: "f", Type: 1, Has: true, Default: `{"x":[1, 2]}`})
	full.Aliases = []string{"o", "n.p"}
	given, none := enum("E", "A", "B"), enum("E", "A")
	given.Aliases, given.Has, given.Default, none.Default = []string{"F"}, true, "B", "A"
	empty, other := enum("E", "A"), fixed("F", 3)
	empty.Has, other.Aliases = true, []string{"x.y", "z"}
	hold(t, []row{
		{s: of(full, leaf(api.Int)), print: `{"type":"record","name":"n.a","aliases":[".o","n.p"],"fields":[{"name":"b","type":"int","aliases":["c","int"],"default":7},{"name":"d","type":"int","aliases":["e"]},{"name":"f","type":"int","default":{"x":[1, 2]}}]}`,
			plain: `{"name":"n.a","type":"record","fields":[{"name":"b","type":"int"},{"name":"d","type":"int"},{"name":"f","type":"int"}]}`},
		{s: of(given), print: `{"type":"enum","name":".E","aliases":[".F"],"symbols":["A","B"],"default":"B"}`, plain: `{"name":"E","type":"enum","symbols":["A","B"]}`},
		{s: of(none), print: `{"type":"enum","name":".E","symbols":["A"]}`, plain: `{"name":"E","type":"enum","symbols":["A"]}`},
		{s: of(empty), print: `{"type":"enum","name":".E","symbols":["A"],"default":""}`, plain: `{"name":"E","type":"enum","symbols":["A"]}`},
		{s: of(other), print: `{"type":"fixed","name":".F","aliases":["x.y",".z"],"size":3}`, plain: `{"name":"F","type":"fixed","size":3}`},
		{s: of(record("a", api.Field{Name: "b", Type: 1, Default: "1"}), leaf(api.Int)), print: `{"type":"record","name":".a","fields":[{"name":"b","type":"int"}]}`, plain: `{"name":"a","type":"record","fields":[{"name":"b","type":"int"}]}`},
		{s: of(record("a", api.Field{Name: "b", Type: 1, Has: true}), leaf(api.Int)), print: `{"type":"record","name":".a","fields":[{"name":"b","type":"int","default":}]}`, plain: `{"name":"a","type":"record","fields":[{"name":"b","type":"int"}]}`},
		{s: of(record("a", api.Field{Name: "b", Type: 1, Has: true, Default: "\xff\" \n"}), leaf(api.Int)), print: "{\"type\":\"record\",\"name\":\".a\",\"fields\":[{\"name\":\"b\",\"type\":\"int\",\"default\":\xff\" \n}]}", plain: `{"name":"a","type":"record","fields":[{"name":"b","type":"int"}]}`},
	})
}

// all is a node of a kind with all that a node may have.
func all(kind int) api.Node {
	return api.Node{Kind: kind, Name: "a", Aliases: []string{"b"}, Fields: []api.Field{field("f", 1)}, Symbols: []string{"S"}, Has: true, Default: "S", Items: 1, Branches: []int{1, 1}, Size: 5}
}

// TestOthersKeys: what a node has that its kind does not speak of stands in no text.
func TestOthersKeys(t *testing.T) {
	ends := map[int][2]string{
		api.Null: {`"null"`}, api.Boolean: {`"boolean"`}, api.Int: {`"int"`}, api.Long: {`"long"`}, api.Float: {`"float"`}, api.Double: {`"double"`}, api.Bytes: {`"bytes"`}, api.String: {`"string"`},
		api.Array: {`{"type":"array","items":"int"}`}, api.Map: {`{"type":"map","values":"int"}`}, api.Union: {`["int","int"]`},
		api.Record: {`{"type":"record","name":".a","aliases":[".b"],"fields":[{"name":"f","type":"int"}]}`, `{"name":"a","type":"record","fields":[{"name":"f","type":"int"}]}`},
		api.Enum:   {`{"type":"enum","name":".a","aliases":[".b"],"symbols":["S"],"default":"S"}`, `{"name":"a","type":"enum","symbols":["S"]}`},
		api.Fixed:  {`{"type":"fixed","name":".a","aliases":[".b"],"size":5}`, `{"name":"a","type":"fixed","size":5}`},
	}
	for kind := api.Null; kind <= api.Fixed; kind++ {
		hold(t, []row{{s: of(all(kind), leaf(api.Int)), print: ends[kind][0], plain: ends[kind][1]}})
	}
}

// TestStood: what has a name is defined where it stands first, each place by itself; what has none is written each time.
func TestStood(t *testing.T) {
	hold(t, []row{
		{s: of(record("a", field("b", 1)), union(2, 0), leaf(api.Null)), print: `{"type":"record","name":".a","fields":[{"name":"b","type":["null",".a"]}]}`, plain: `{"name":"a","type":"record","fields":[{"name":"b","type":["null","a"]}]}`},
		{s: of(union(1, 1, 2, 3, 1, 2, 3, 4), fixed("n.f", 1), enum("e", "A"), record("r", field("f", 1), field("e", 2), field("r", 3)), array(3)),
			print: `[{"type":"fixed","name":"n.f","size":1},"n.f",{"type":"enum","name":".e","symbols":["A"]},{"type":"record","name":".r","fields":[{"name":"f","type":"n.f"},{"name":"e","type":".e"},{"name":"r","type":".r"}]},"n.f",".e",".r",{"type":"array","items":".r"}]`,
			plain: `[{"name":"n.f","type":"fixed","size":1},"n.f",{"name":"e","type":"enum","symbols":["A"]},{"name":"r","type":"record","fields":[{"name":"f","type":"n.f"},{"name":"e","type":"e"},{"name":"r","type":"r"}]},"n.f","e","r",{"type":"array","items":"r"}]`},
		{s: of(union(1, 2), fixed("f", 1), fixed("f", 1)), print: `[{"type":"fixed","name":".f","size":1},{"type":"fixed","name":".f","size":1}]`, plain: `[{"name":"f","type":"fixed","size":1},{"name":"f","type":"fixed","size":1}]`},
		{s: of(union(1, 1, 2, 2, 3, 3), array(4), mapping(4), union(4), leaf(api.Int)), print: `[{"type":"array","items":"int"},{"type":"array","items":"int"},{"type":"map","values":"int"},{"type":"map","values":"int"},["int"],["int"]]`},
		{s: of(array(2), record("a", field("b", 0)), mapping(1)), print: `{"type":"array","items":{"type":"map","values":{"type":"record","name":".a","fields":[{"name":"b","type":{"type":"array","items":{"type":"map","values":".a"}}}]}}}`,
			plain: `{"type":"array","items":{"type":"map","values":{"name":"a","type":"record","fields":[{"name":"b","type":{"type":"array","items":{"type":"map","values":"a"}}}]}}}`},
		{s: of(leaf(api.Int), leaf(99), array(-1), record("a", field("b", 7))), print: `"int"`}, // what is not come to
	})
}

// TestStrings: each string of a text is json.Print's, whatever bytes it has.
func TestStrings(t *testing.T) {
	odd := "\"\\/\x00\x1f\x7f\n\u00e9\u2028<\xff"
	want := `\"\\/\u0000\u001f` + "\x7f" + `\u000a` + "\u00e9\u2028<\xff"
	e := enum(odd, odd)
	e.Aliases, e.Has, e.Default = []string{odd, "." + odd}, true, odd
	r := record(odd, api.Field{Name: odd, Aliases: []string{odd, "." + odd}, Type: 0})
	hold(t, []row{
		{s: of(e), print: `{"type":"enum","name":".` + want + `","aliases":[".` + want + `",".` + want + `"],"symbols":["` + want + `"],"default":"` + want + `"}`, plain: `{"name":"` + want + `","type":"enum","symbols":["` + want + `"]}`},
		{s: of(r), print: `{"type":"record","name":".` + want + `","fields":[{"name":"` + want + `","type":".` + want + `","aliases":["` + want + `",".` + want + `"]}]}`, plain: `{"name":"` + want + `","type":"record","fields":[{"name":"` + want + `","type":"` + want + `"}]}`},
		{s: of(record("", field("", 0))), print: `{"type":"record","name":".","fields":[{"name":"","type":"."}]}`, plain: `{"name":"","type":"record","fields":[{"name":"","type":""}]}`},
		{s: of(union(1, 2, 3), fixed(".a", 1), fixed("a.", 1), fixed("int", 1)), print: `[{"type":"fixed","name":".a","size":1},{"type":"fixed","name":"a.","size":1},{"type":"fixed","name":".int","size":1}]`, plain: `[{"name":".a","type":"fixed","size":1},{"name":"a.","type":"fixed","size":1},{"name":"int","type":"fixed","size":1}]`},
	})
}

func TestNoText(t *testing.T) {
	rows := []api.Schema{{}, of(), {Nodes: []api.Node{}}, of(leaf(0)), of(leaf(-1)), of(leaf(15)), of(leaf(99)), of(leaf(math.MinInt)), of(leaf(math.MaxInt)),
		of(array(0)), of(mapping(0)), of(union(0)), of(array(1)), of(array(-1)), of(array(math.MinInt)), of(array(math.MaxInt)), of(mapping(1)), of(mapping(-1)), of(union(1)), of(union(-1)), of(union(math.MaxInt)),
		of(union(1, 2), leaf(api.Int)), of(union(2, 1), leaf(api.Int)), of(record("a", field("b", 1))), of(record("a", field("b", -1))), of(record("a", field("b", 0), field("c", 9))), of(record("a", field("b", math.MaxInt))),
		of(union(1, 2), leaf(api.Int), leaf(99)), of(union(2, 1), leaf(api.Int), leaf(0)), of(array(1), leaf(0)), of(mapping(1), leaf(99)), of(record("a", field("b", 1)), leaf(99)), of(record("a", field("b", 1), field("c", 2)), leaf(api.Int), leaf(-5)),
		of(array(1), array(0)), of(array(1), mapping(2), union(3, 0), leaf(api.Null)), of(union(1, 0), leaf(api.Null)), of(union(0, 0)), of(union(1, 1), union(0, 0)), of(record("a", field("b", 1)), array(1)), of(record("a", field("b", 1)), union(0, 1)), of(record("a", field("b", 1), field("c", 3)), leaf(api.Int), leaf(api.Int), mapping(4), array(3))}
	for i, s := range rows {
		if p, c := canon.Print(s), canon.Canonical(s); p != "" || c != "" || canon.Right(s) {
			t.Errorf("P6.1: the row %d (%+v) has texts: %.100s; %.100s; right: %v", i, s, p, c, canon.Right(s))
		}
	}
}

// TestNoEnd: schemas whose texts would be far too long are given up.
func TestNoEnd(t *testing.T) {
	chain := func(n int, one func(next int) api.Node) api.Schema {
		var s api.Schema
		for i := range n {
			s.Nodes = append(s.Nodes, one(i+1))
		}
		s.Nodes = append(s.Nodes, leaf(api.Int))
		return s
	}
	fields := make([]api.Field, 200000)
	rows := []api.Schema{
		chain(200, func(next int) api.Node { return union(next, next) }), chain(200, func(next int) api.Node { return union(next, next, next, next, next) }),
		chain(60, func(next int) api.Node { return record("a", field("b", next), field("c", next)) }), // each once: that has a text
		chain(30000, func(next int) api.Node { return union(next) }), chain(30000, array), chain(30000, mapping), chain(30000, func(next int) api.Node { return record("", field("", next)) }),
		of(union(make([]int, 1000000)...)), of(union(append(make([]int, 1000000), 1)...), leaf(api.Int)), of(union(slices.Repeat([]int{1}, 1000000)...), leaf(api.Int)), of(record("a", fields...)),
		of(enum("a", make([]string, 1000000)...)), of(fixed(strings.Repeat("a", 1<<22), 1)), of(enum("a", strings.Repeat("\n", 1<<22))), of(record("a", field(strings.Repeat("\x01", 1<<22), 0))),
		of(record("a", api.Field{Name: "b", Has: true, Default: strings.Repeat("1", 1<<22)})), of(record("a", api.Field{Name: "b", Aliases: make([]string, 1000000)})), of(api.Node{Kind: api.Fixed, Aliases: make([]string, 1000000)}),
	}
	long := []int{2, 15, 16, 17} // these have a text, or a canonical one
	for i, s := range rows {
		if got := canon.Print(s); (got == "") == (i == 2) {
			t.Errorf("P6.1: the row %d: a text of %d bytes", i, len(got))
		}
		if got := canon.Canonical(s); (got == "") == slices.Contains(long, i) {
			t.Errorf("P6.2: the row %d: a text of %d bytes", i, len(got))
		}
		if canon.Right(s) {
			t.Errorf("P6.3: the row %d is right", i)
		}
	}
}

// TestLongest: a text has MaxSchema bytes at most, each of the two by itself.
func TestLongest(t *testing.T) {
	given := func(n int) api.Schema {
		return of(record("a", api.Field{Name: "b", Type: 1, Has: true, Default: `"` + strings.Repeat("x", n) + `"`}), leaf(api.String))
	}
	room := api.MaxSchema - len(canon.Print(given(0)))
	for _, n := range []int{0, room - 1, room, room + 1, room + 2, 3 * room} {
		s, fits := given(n), n <= room
		if got := canon.Print(s); fits && len(got) != api.MaxSchema-room+n || !fits && got != "" {
			t.Errorf("P6.1: a default of %d bytes, with room for %d: a text of %d bytes", n, room, len(got))
		}
		if got, want := canon.Canonical(s), `{"name":"a","type":"record","fields":[{"name":"b","type":"string"}]}`; got != want {
			t.Errorf("P6.2: a default of %d bytes: %s", n, got)
		}
		if canon.Right(s) != fits {
			t.Errorf("P6.3: a default of %d bytes, with room for %d: right: %v", n, room, canon.Right(s))
		}
	}
	for _, end := range []string{"", "\"", "\n"} { // a name that ends so
		long := func(n int) api.Schema { return of(fixed(strings.Repeat("x", n)+end, 7)) }
		plain, print := api.MaxSchema-len(canon.Canonical(long(0))), api.MaxSchema-len(canon.Print(long(0)))
		if plain != print+1 {
			t.Fatalf("P6.1: Print of a name without a point has one byte more: room for %d and %d", print, plain)
		}
		for n := print - 2; n <= plain+3; n++ {
			if p, c := canon.Print(long(n)), canon.Canonical(long(n)); (len(p) == api.MaxSchema-print+n) != (n <= print) || (p == "") != (n > print) || (len(c) == api.MaxSchema-plain+n) != (n <= plain) || (c == "") != (n > plain) {
				t.Errorf("P6.1: a name of %d bytes: texts of %d and %d bytes", n, len(p), len(c))
			}
		}
	}
	for n := 6660; n <= 6670; n++ { // the last bytes are a list's end
		want := 1 + 3*n // [[],[],[]]
		s := of(union(slices.Repeat([]int{1}, n)...), union())
		if got := len(canon.Print(s)); want <= api.MaxSchema && got != want || want > api.MaxSchema && got != 0 {
			t.Errorf("P6.1: %d branches: a text of %d bytes", n, got)
		}
	}
	for _, n := range []int{9999, 10000, 10001} { // unions within unions, until no byte is left
		var s api.Schema
		for i := range n - 1 {
			s.Nodes = append(s.Nodes, union(i+1))
		}
		s.Nodes = append(s.Nodes, union())
		if got := len(canon.Print(s)); n <= 10000 && got != 2*n || n > 10000 && got != 0 {
			t.Errorf("P6.1: %d unions: a text of %d bytes", n, got)
		}
	}
}

// rich is a text with all that a schema may have.
const rich = `{"type":"error","name":"r","namespace":"n","aliases":["old",".top","x.y"],"doc":"d","fields":[{"name":"a","type":["null","r"],"default": null },{"name":"b","aliases":["c","d"],"type":{"type":"enum","name":".E","aliases":["F"],"symbols":["X","Y"],"default":"Y"},"default":"X"},
{"name":"e","type":".E"},{"name":"f","type":{"type":"map","values":{"type":"array","items":{"type":{"type":"fixed","name":"F","size":2}}}},"default":{ "k" : [ "\u00e9a" ] }},{"name":"g","type":"F"},{"name":"h","type":"int","default":-0},{"name":"i","type":["string","n.F",".E",{"type":"map","values":"r"}],"default":"\n\/"},{"name":"j","type":{"type":"record","name":"m.s","fields":[]},"default":{}}]}`

const richPrint = `{"type":"record","name":"n.r","aliases":["n.old",".top","x.y"],"fields":[{"name":"a","type":["null","n.r"],"default":null},{"name":"b","type":{"type":"enum","name":".E","aliases":[".F"],"symbols":["X","Y"],"default":"Y"},"aliases":["c","d"],"default":"X"},` +
	`{"name":"e","type":".E"},{"name":"f","type":{"type":"map","values":{"type":"array","items":{"type":"fixed","name":"n.F","size":2}}},"default":{"k":["` + "\u00e9" + `a"]}},{"name":"g","type":"n.F"},{"name":"h","type":"int","default":0},{"name":"i","type":["string","n.F",".E",{"type":"map","values":"n.r"}],"default":"\u000a/"},{"name":"j","type":{"type":"record","name":"m.s","fields":[]},"default":{}}]}`

const richPlain = `{"name":"n.r","type":"record","fields":[{"name":"a","type":["null","n.r"]},{"name":"b","type":{"name":"E","type":"enum","symbols":["X","Y"]}},{"name":"e","type":"E"},{"name":"f","type":{"type":"map","values":{"type":"array","items":{"name":"n.F","type":"fixed","size":2}}}},{"name":"g","type":"n.F"},{"name":"h","type":"int"},` +
	`{"name":"i","type":["string","n.F","E",{"type":"map","values":"n.r"}]},{"name":"j","type":{"name":"m.s","type":"record","fields":[]}}]}`

func TestRich(t *testing.T) {
	s := parse(t, rich)
	hold(t, []row{{s, richPrint, richPlain}})
	if !canon.Right(s) || !reflect.DeepEqual(parse(t, richPrint), s) {
		t.Errorf("P6.3: right: %v; parsed of its text: %+v; want %+v", canon.Right(s), parse(t, richPrint), s)
	}
}

// TestNotRight: a node of a right schema is given what its kind does not speak of, one field at a time: no text tells it, so that is not right.
func TestNotRight(t *testing.T) {
	for kind := api.Null; kind <= api.Fixed; kind++ {
		base, at, own := of(array(1), leaf(kind)), 1, ""
		switch kind {
		case api.Record:
			base, at, own = of(record("a", field("f", 1)), leaf(api.Int)), 0, "Name Aliases Fields"
		case api.Enum:
			base.Nodes[1], own = enum("a", "S"), "Name Aliases Symbols Has Default"
		case api.Fixed:
			base.Nodes[1], own = fixed("a", 5), "Name Aliases Size"
		case api.Array, api.Map:
			base, at, own = of(api.Node{Kind: kind, Items: 1}, leaf(api.Int)), 0, "Items"
		case api.Union:
			base, at, own = of(union(1), leaf(api.Int)), 0, "Branches"
		}
		if !canon.Right(base) {
			t.Errorf("P6.3: not right: %+v", base)
		}
		given := reflect.ValueOf(all(kind))
		for i := range given.NumField() {
			name := given.Type().Field(i).Name
			if name == "Kind" || slices.Contains(strings.Fields(own), name) {
				continue
			}
			s := of(slices.Clone(base.Nodes)...)
			reflect.ValueOf(&s.Nodes[at]).Elem().Field(i).Set(given.Field(i))
			if canon.Right(s) {
				t.Errorf("P6.3: right with %s: %+v", name, s)
			}
		}
	}
}

func TestNotRightEither(t *testing.T) {
	r := func(f api.Field, more ...api.Node) api.Schema {
		return of(append([]api.Node{record("a", f)}, more...)...)
	}
	given := func(kind int, text string) api.Schema {
		return r(api.Field{Name: "b", Type: 1, Has: true, Default: text}, leaf(kind))
	}
	named := func(n api.Node, aliases ...string) api.Schema { n.Aliases = aliases; return of(n) }
	byDefault := func(text string, has bool) api.Schema {
		n := enum("e", "A", "B")
		n.Has, n.Default = has, text
		return of(n)
	}
	many := func(n int) (s api.Schema) { // so many nodes
		s.Nodes = []api.Node{record("a")}
		for i := 1; i < n; i++ {
			s.Nodes[0].Fields = append(s.Nodes[0].Fields, field("f"+strings.Repeat("x", i/20)+string(rune('a'+i%20)), i))
			s.Nodes = append(s.Nodes, leaf(api.Int))
		}
		return s
	}
	deep := func(n int) (s api.Schema) { // so many arrays
		for i := range n {
			s.Nodes = append(s.Nodes, array(i+1))
		}
		s.Nodes = append(s.Nodes, leaf(api.Int))
		return s
	}
	long := strings.Repeat("x", api.MaxName)
	right := []api.Schema{given(api.Int, "0"), given(api.String, `"a b"`), given(api.Null, "null"), given(api.Bytes, `"\u0000"`), named(fixed("a", 0), "a", "a", "n.b"), named(fixed("n.int", 1000), "int.a"), byDefault("", false), byDefault("A", true), byDefault("B", true), many(1), many(api.MaxNodes), deep(1), deep(api.MaxDepth),
		of(fixed(long, 1)), of(union(1), leaf(api.Int)), of(union(1, 2, 3), fixed("a", 1), fixed("b", 1), array(1)), of(record("a", api.Field{Name: "int", Aliases: []string{"int", "int"}, Type: 0})), of(enum("e", "e", "int"))}
	for i, s := range right {
		if !canon.Right(s) {
			t.Errorf("P6.3: the row %d is not right: %+v", i, s)
		}
	}
	wrong := []api.Schema{given(api.Int, ""), given(api.Int, " 0"), given(api.Int, "-0"), given(api.Int, "null"), given(api.Int, "1.5"), given(api.Int, "2147483648"), given(api.Int, `0,"x":1`), given(api.Int, `0}`), given(api.Int, `0,"aliases":[]`), given(api.String, `"\n"`), given(api.String, `"\/"`), given(api.String, `"\u0061"`), given(api.String, "\"\xff\""), given(api.String, `"\u000A"`), given(api.Bytes, "\"\u0100\""),
		r(api.Field{Name: "b", Type: 1, Default: "0"}, leaf(api.Int)), r(api.Field{Name: "9", Type: 1}, leaf(api.Int)), r(api.Field{Name: "a.b", Type: 1}, leaf(api.Int)), r(api.Field{Type: 1}, leaf(api.Int)), r(api.Field{Name: "b", Aliases: []string{"a.b"}, Type: 1}, leaf(api.Int)), r(api.Field{Name: "b", Aliases: []string{""}, Type: 1}, leaf(api.Int)), r(api.Field{Name: "\xff", Type: 1}, leaf(api.Int)),
		of(record("a", field("b", 1), field("b", 2)), leaf(api.Int), leaf(api.Int)), of(record("a", field("b", 1), field("c", 1)), leaf(api.Int)), of(record("a", field("b", 2), field("c", 1)), leaf(api.Int), leaf(api.Int)), of(record("a"), leaf(api.Int)), of(union(1, 2), leaf(api.Int), leaf(api.Int)), of(union(1, 1), leaf(api.Int)), of(union()), of(union(1), union(2), leaf(api.Int)), of(union(1, 1), fixed("a", 1)), of(union(1, 2), fixed("a", 1), fixed("a", 1)), of(union(1, 2), array(3), array(4), leaf(api.Int), leaf(api.Int)), of(union(2, 1), leaf(api.Int), leaf(api.Null)), of(union(1, 2), fixed("a", 1), record("b", field("c", 3)), fixed("a", 1)),
		named(fixed("", 1)), named(fixed("int", 1)), named(fixed("9", 1)), named(fixed(".a", 1)), named(fixed("a..b", 1)), named(fixed("a.", 1)), named(fixed(long+"x", 1)), named(fixed("a b", 1)), named(fixed("\xff", 1)), named(fixed("a", 1), ""), named(fixed("a", 1), ".b"), named(fixed("a", 1), "int"), named(fixed("a", 1), "b", "9"), named(record("a"), "\xff"), named(enum("a", "A"), "x..y"),
		of(fixed("a", -1)), of(fixed("a", 1001)), of(fixed("a", math.MaxInt)), of(enum("a")), of(enum("a", "A", "A")), of(enum("a", "9")), of(enum("a", "")), of(enum("a", "A", "\xff")), byDefault("A", false), byDefault("C", true), byDefault("", true), many(api.MaxNodes + 1), deep(api.MaxDepth + 1), {}}
	for i, s := range wrong {
		if canon.Right(s) {
			t.Errorf("P6.3: the row %d is right: %+v", i, s)
		}
	}
}

// TestTooLong: what was parsed is right just if its text is not too long; relative names make a text shorter.
func TestTooLong(t *testing.T) {
	space := strings.Repeat("n", 90)
	for _, n := range []int{100, 300} {
		text := `{"type":"record","name":"r","namespace":"` + space + `","fields":[{"name":"f","type":{"type":"fixed","name":"f","size":1}}`
		want := `{"type":"record","name":"` + space + `.r","fields":[{"name":"f","type":{"type":"fixed","name":"` + space + `.f","size":1}}`
		for i := range n {
			name := "x" + strings.Repeat("y", i/26) + string(rune('a'+i%26))
			text += `,{"name":"` + name + `","type":"f"}`
			want += `,{"name":"` + name + `","type":"` + space + `.f"}`
		}
		want += "]}"
		long := len(want) > api.MaxSchema
		if long != (n == 300) {
			t.Fatalf("P6.1: %d fields: a text of %d bytes", n, len(want))
		}
		if long {
			want = ""
		}
		s := parse(t, text+"]}")
		if got := canon.Print(s); got != want || canon.Right(s) == long || (canon.Canonical(s) == "") != long {
			t.Errorf("P6.3: %d fields: texts of %d and %d bytes, right: %v; want %d bytes", n, len(got), len(canon.Canonical(s)), canon.Right(s), len(want))
		}
	}
}

// TestNothingChanged (R2, R3): what is handed in stays as it is, with the room behind it; nil lists are empty ones; asked again the answer is the same.
func TestNothingChanged(t *testing.T) {
	behind := func(s api.Schema) api.Schema {
		out := of()
		for _, n := range s.Nodes {
			n.Aliases, n.Symbols, n.Branches, n.Fields = append(slices.Clone(n.Aliases), "behind"), append(slices.Clone(n.Symbols), "behind"), append(slices.Clone(n.Branches), 77), append(slices.Clone(n.Fields), api.Field{Name: "behind"})
			for i := range n.Fields {
				n.Fields[i].Aliases = append(slices.Clone(n.Fields[i].Aliases), "behind")
			}
			out.Nodes = append(out.Nodes, n)
		}
		return out
	}
	cut := func(s api.Schema) {
		for i := range s.Nodes {
			n := &s.Nodes[i]
			for j := range n.Fields {
				n.Fields[j].Aliases = n.Fields[j].Aliases[:len(n.Fields[j].Aliases)-1]
			}
			n.Aliases, n.Symbols, n.Branches, n.Fields = n.Aliases[:len(n.Aliases)-1], n.Symbols[:len(n.Symbols)-1], n.Branches[:len(n.Branches)-1], n.Fields[:len(n.Fields)-1]
		}
	}
	whole := func(s api.Schema) {
		for i := range s.Nodes {
			n := &s.Nodes[i]
			n.Aliases, n.Symbols, n.Branches, n.Fields = n.Aliases[:len(n.Aliases)+1], n.Symbols[:len(n.Symbols)+1], n.Branches[:len(n.Branches)+1], n.Fields[:len(n.Fields)+1]
			for j := range n.Fields {
				n.Fields[j].Aliases = n.Fields[j].Aliases[:len(n.Fields[j].Aliases)+1]
			}
		}
	}
	s, kept := behind(parse(t, rich)), behind(parse(t, rich))
	cut(s) // now its empty lists are not nil
	for range 3 {
		if canon.Print(s) != richPrint || canon.Canonical(s) != richPlain || !canon.Right(s) {
			t.Errorf("R2: another answer: %s; %s; right: %v", canon.Print(s), canon.Canonical(s), canon.Right(s))
		}
	}
	whole(s)
	if !reflect.DeepEqual(s, kept) {
		t.Errorf("R3: it was changed: %+v; was %+v", s, kept)
	}
}
