package schema_test

import (
	"slices"
	"strconv"
	"strings"
	"testing"

	"courant/api"
	"courant/schema"
)

// sameField and sameNode are R9's: all fields, and the elements of lists one by one.
func sameField(a, b api.Field) bool {
	return a.Name == b.Name && slices.Equal(a.Aliases, b.Aliases) && a.Type == b.Type && a.Has == b.Has && a.Default == b.Default
}

func sameNode(a, b api.Node) bool {
	return a.Kind == b.Kind && a.Name == b.Name && slices.Equal(a.Aliases, b.Aliases) && slices.EqualFunc(a.Fields, b.Fields, sameField) &&
		slices.Equal(a.Symbols, b.Symbols) && a.Has == b.Has && a.Default == b.Default && a.Items == b.Items && slices.Equal(a.Branches, b.Branches) && a.Size == b.Size
}

func same(a, b []api.Node) bool { return slices.EqualFunc(a, b, sameNode) }

// spoil writes over all lists of a node, and over the room behind their ends.
func spoil(n api.Node) {
	for _, f := range n.Fields {
		fill(f.Aliases, "#")
	}
	fill(n.Aliases, "#")
	fill(n.Fields, api.Field{Name: "#", Type: 99, Has: true, Default: "#"})
	fill(n.Symbols, "#")
	fill(n.Branches, 99)
}

func fill[T any](list []T, x T) {
	list = list[:cap(list)]
	for i := range list {
		list[i] = x
	}
}

// copied is nodes in memory of their own, with room behind the ends of their lists.
func copied(nodes []api.Node) []api.Node {
	var out []api.Node
	for _, n := range nodes {
		n.Aliases, n.Symbols, n.Branches, n.Fields = roomy(n.Aliases, "behind"), roomy(n.Symbols, "behind"), roomy(n.Branches, 77), roomy(n.Fields, api.Field{Name: "behind"})
		for i := range n.Fields {
			n.Fields[i].Aliases = roomy(n.Fields[i].Aliases, "behind")
		}
		out = append(out, n)
	}
	return roomy(out, api.Node{Kind: 77})
}

func roomy[T any](list []T, behind T) []T {
	return append(slices.Clone(list), behind)[:len(list)]
}

// behind tells whether the room behind a list is as roomy left it.
func behind[T any](list []T, is func(T) bool) bool {
	return cap(list) > len(list) && is(list[:len(list)+1][len(list)])
}

func leaf(kind int) api.Node { return api.Node{Kind: kind} }

func union(branches ...int) api.Node { return api.Node{Kind: api.Union, Branches: branches} }

func record(name string, fields ...api.Field) api.Node {
	return api.Node{Kind: api.Record, Name: name, Fields: fields}
}

func field(name string, at int) api.Field { return api.Field{Name: name, Type: at} }

// fields is the text of a record r with these.
func fields(list ...string) string {
	return `{"type":"record","name":"r","fields":[` + strings.Join(list, ",") + `]}`
}

// fault is what Parse answers, nodes being told just if it is OK (R4).
func fault(t *testing.T, text string) api.Errno {
	t.Helper()
	s, e := schema.Parse(text)
	if (e == api.OK) != (len(s.Nodes) > 0) {
		t.Errorf("R4: Parse(%.80s): %d nodes beside the error %d", text, len(s.Nodes), e)
	}
	return e
}

func TestPrimitives(t *testing.T) {
	list := []string{"null", "boolean", "int", "long", "float", "double", "bytes", "string"}
	for i, name := range list {
		name = strconv.Quote(name)
		for _, text := range []string{name, " " + name + "\n", `{"type":` + name + `}`, `{"type":{"a":1,"type":` + name + `,"name":7,"items":[]}}`} {
			s, e := schema.Parse(text)
			if want := []api.Node{leaf(i + 1)}; e != api.OK || !same(s.Nodes, want) {
				t.Errorf("P5.1: Parse(%s): %+v, error %d; want %+v", text, s.Nodes, e, want)
			}
		}
	}
}

func TestNodesOfTypes(t *testing.T) {
	rows := []struct {
		text string
		want []api.Node
	}{
		{`{"type":"record","name":"a","fields":[{"name":"b","type":["null","a"]}]}`, []api.Node{record("a", field("b", 1)), union(2, 0), leaf(api.Null)}},
		{`{"type":"array","items":"int"}`, []api.Node{{Kind: api.Array, Items: 1}, leaf(api.Int)}},
		{`{"type":"map","values":"long","items":"int"}`, []api.Node{{Kind: api.Map, Items: 1}, leaf(api.Long)}},
		{`{"type":"array","items":{"type":"map","values":{"type":{"type":"array","items":["null"]}}},"values":1}`, []api.Node{{Kind: api.Array, Items: 1}, {Kind: api.Map, Items: 2}, {Kind: api.Array, Items: 3}, union(4), leaf(api.Null)}},
		{`["null","string"]`, []api.Node{union(1, 2), leaf(api.Null), leaf(api.String)}},
		{`{"type":["int"]}`, []api.Node{union(1), leaf(api.Int)}},
		{`[{"type":"array","items":["int"]},{"type":"map","values":"int"},"int"]`, []api.Node{union(1, 4, 6), {Kind: api.Array, Items: 2}, union(3), leaf(api.Int), {Kind: api.Map, Items: 5}, leaf(api.Int), leaf(api.Int)}},
		{fields(), []api.Node{record("r")}},
		{`{"type":"error","name":"r","fields":[],"symbols":1,"size":1,"default":1,"items":1}`, []api.Node{record("r")}},
		{`{"fields":[{"type":"int","name":"a"},{"name":"b","type":"int"}],"name":"r","type":"record"}`, []api.Node{record("r", field("a", 1), field("b", 2)), leaf(api.Int), leaf(api.Int)}},
		{`{"type":"enum","name":"e","symbols":["B","A","int","_","B_0"],"fields":1,"size":1}`, []api.Node{{Kind: api.Enum, Name: "e", Symbols: []string{"B", "A", "int", "_", "B_0"}}}},
		{`{"type":"enum","name":"e","symbols":["B","A"],"default":"A"}`, []api.Node{{Kind: api.Enum, Name: "e", Symbols: []string{"B", "A"}, Has: true, Default: "A"}}},
		{`{"type":"fixed","name":"f","size":0,"symbols":1,"default":1}`, []api.Node{{Kind: api.Fixed, Name: "f"}}},
		{`{"type":"fixed","name":"f","size":-0}`, []api.Node{{Kind: api.Fixed, Name: "f"}}},
		{`{"type":"fixed","name":"f","size":1000}`, []api.Node{{Kind: api.Fixed, Name: "f", Size: 1000}}},
		{`[{"type":"fixed","name":"f","size":1},{"type":"fixed","name":"g","size":1},{"type":"enum","name":"h","symbols":["A"]},{"type":"enum","name":"i","symbols":["A"]}]`,
			[]api.Node{union(1, 2, 3, 4), {Kind: api.Fixed, Name: "f", Size: 1}, {Kind: api.Fixed, Name: "g", Size: 1}, {Kind: api.Enum, Name: "h", Symbols: []string{"A"}}, {Kind: api.Enum, Name: "i", Symbols: []string{"A"}}}},
		{`{"type":"record","name":"a","fields":[{"name":"b","type":{"type":"record","name":"c","fields":[{"name":"d","type":["a","c"]}]}},{"name":"e","type":"c"},{"name":"f","type":{"type":"c"}}]}`,
			[]api.Node{record("a", field("b", 1), field("e", 1), field("f", 1)), record("c", field("d", 2)), union(0, 1)}},
	}
	for _, x := range rows {
		s, e := schema.Parse(x.text)
		if e != api.OK || !same(s.Nodes, x.want) {
			t.Errorf("P5.1: Parse(%s): %+v, error %d; want %+v", x.text, s.Nodes, e, x.want)
		}
	}
}

func TestFields(t *testing.T) {
	s, e := schema.Parse(fields(`{"name":"a","type":"int","aliases":["a","b","b","int"],"default": -0 , "doc":1,"order":[]}`, `{"name":"b","type":["null","r"],"aliases":[],"default":null}`,
		`{"name":"int","type":{"type":"map","values":"string"},"default":{ "b" : "\n\/" , "a":"\u00e9"}}`, `{"name":"_9","type":"string"}`))
	want := []api.Node{record("r", api.Field{Name: "a", Aliases: []string{"a", "b", "b", "int"}, Type: 1, Has: true, Default: "0"}, api.Field{Name: "b", Type: 2, Has: true, Default: "null"},
		api.Field{Name: "int", Type: 4, Has: true, Default: `{"b":"\u000a/","a":"` + "\u00e9" + `"}`}, field("_9", 6)),
		leaf(api.Int), union(3, 0), leaf(api.Null), {Kind: api.Map, Items: 5}, leaf(api.String), leaf(api.String)}
	if e != api.OK || !same(s.Nodes, want) {
		t.Errorf("P5.1: %+v, error %d; want %+v", s.Nodes, e, want)
	}
}

func TestNames(t *testing.T) {
	long := strings.Repeat("x", api.MaxName)
	rows := []struct{ in, name, aliases string }{ // name: empty, if it is refused by ErrName
		{`"name":"a"`, "a", ""}, {`"name":"a","namespace":""`, "a", ""}, {`"name":"a","namespace":"b"`, "b.a", ""}, {`"name":"a","namespace":"b.c"`, "b.c.a", ""},
		{`"name":"x.a"`, "x.a", ""}, {`"name":"x.a","namespace":"b"`, "x.a", ""}, {`"name":"x.a","namespace":""`, "x.a", ""}, {`"name":".a","namespace":"b"`, "a", ""}, {`"name":".a"`, "a", ""},
		{`"name":"int","namespace":"b"`, "b.int", ""}, {`"name":"b.int"`, "b.int", ""}, {`"name":"array"`, "array", ""}, {`"name":"record"`, "record", ""}, {`"name":"a","namespace":"int"`, "int.a", ""},
		{`"name":"` + long + `"`, long, ""}, {`"name":".` + long + `"`, long, ""}, {`"name":"` + long[3:] + `","namespace":"bb"`, "bb." + long[3:], ""},
		{`"name":"a","aliases":[]`, "a", ""}, {`"name":"a","aliases":["b","a","a"]`, "a", "b a a"}, {`"name":"a","namespace":"n.m","aliases":["b",".b","x.b","int"]`, "n.m.a", "n.m.b b x.b n.m.int"},
		{`"name":"x.a","namespace":"n","aliases":["b"]`, "x.a", "x.b"}, {`"name":".a","namespace":"n","aliases":["b"]`, "a", "b"}, {`"name":"a","namespace":"int","aliases":["long"]`, "int.a", "int.long"},
		{`"aliases":["a"]`, "", ""}, {`"name":1`, "", ""}, {`"name":null`, "", ""}, {`"name":["a"]`, "", ""}, {`"name":{"name":"a"}`, "", ""}, {`"namespace":"a"`, "", ""}, {`"Name":"a"`, "", ""},
		{`"name":""`, "", ""}, {`"name":"9"`, "", ""}, {`"name":"a b"`, "", ""}, {`"name":"a."`, "", ""}, {`"name":"a..b"`, "", ""}, {`"name":"."`, "", ""}, {`"name":".a.b"`, "", ""}, {`"name":"` + "\u00e9" + `"`, "", ""},
		{`"name":"int"`, "", ""}, {`"name":".int","namespace":"b"`, "", ""}, {`"name":"null","namespace":""`, "", ""},
		{`"name":"a","namespace":null`, "", ""}, {`"name":"a","namespace":1`, "", ""}, {`"name":"a","namespace":["b"]`, "", ""}, {`"name":"x.a","namespace":1`, "", ""}, {`"name":"a","namespace":"9"`, "", ""}, {`"name":"a","namespace":"."`, "", ""}, {`"name":"a","namespace":".b"`, "", ""}, {`"name":"a","namespace":"b."`, "", ""},
		{`"name":"x.a","namespace":"9"`, "", ""}, {`"name":".a","namespace":"b c"`, "", ""}, {`"name":".a","namespace":"` + long + `x"`, "", ""}, {`"name":".a","namespace":"` + long + `"`, "a", ""},
		{`"name":"` + long + `x"`, "", ""}, {`"name":"` + long[2:] + `","namespace":"bb"`, "", ""},
		{`"name":"a","aliases":null`, "", ""}, {`"name":"a","aliases":"b"`, "", ""}, {`"name":"a","aliases":{}`, "", ""}, {`"name":"a","aliases":[1]`, "", ""}, {`"name":"a","aliases":["b",null]`, "", ""}, {`"name":"a","aliases":["b",["c"]]`, "", ""},
		{`"name":"a","aliases":["9"]`, "", ""}, {`"name":"a","aliases":["b",""]`, "", ""}, {`"name":"a","aliases":["int"]`, "", ""}, {`"name":"a","namespace":"n","aliases":[".int"]`, "", ""}, {`"name":"a","namespace":"nn","aliases":["` + long[2:] + `"]`, "", ""},
	}
	ends := map[int]string{api.Record: `{"type":"record","fields":[],`, api.Enum: `{"type":"enum","symbols":["A"],`, api.Fixed: `{"type":"fixed","size":1,`}
	for kind, head := range ends {
		for _, x := range rows {
			text := head + x.in + "}"
			s, e := schema.Parse(text)
			if x.name == "" && (e != api.ErrName || len(s.Nodes) > 0) {
				t.Errorf("P5.1: Parse(%s): %+v, error %d; want %d", text, s.Nodes, e, api.ErrName)
			}
			if x.name != "" && (e != api.OK || s.Nodes[0].Kind != kind || s.Nodes[0].Name != x.name || strings.Join(s.Nodes[0].Aliases, " ") != x.aliases) {
				t.Errorf("P5.1: Parse(%s): %+v, error %d; want %s, aliases %s", text, s.Nodes, e, x.name, x.aliases)
			}
		}
	}
}

// TestSpaces: which type a name says hangs on the namespace around it, which is that of the record's full name.
func TestSpaces(t *testing.T) {
	fixed := func(name string) string { return `{"type":"fixed","size":1,` + name + `}` }
	inside := func(head string, list ...string) string {
		text := `{"type":"record",` + head + `,"fields":[`
		for i, x := range list {
			text += `{"name":"f` + strconv.Itoa(i) + `","type":` + x + `},`
		}
		return strings.TrimSuffix(text, ",") + "]}"
	}
	rows := []struct {
		text string
		want string // the names of the nodes that the fields have, or the error
	}{
		{inside(`"name":"n.a"`, fixed(`"name":"b"`), `"b"`, `"n.b"`, `"n.a"`, `"a"`), "n.b n.b n.b n.a n.a"},
		{inside(`"name":"a","namespace":"n"`, fixed(`"name":"b"`), `"b"`), "n.b n.b"},
		{inside(`"name":"x.a","namespace":"n"`, fixed(`"name":"b"`), `"x.b"`), "x.b x.b"},
		{inside(`"name":".a","namespace":"n"`, fixed(`"name":"b"`), `".b"`, `"a"`), "b b a"},
		{inside(`"name":"n.a"`, fixed(`"name":".b"`), `".b"`), "b b"}, {inside(`"name":"n.a"`, fixed(`"name":".b"`), `"b"`), "9"}, {inside(`"name":"n.a"`, fixed(`"name":"b"`), `".b"`), "9"},
		{inside(`"name":"n.a"`, fixed(`"name":"b","namespace":""`), `".b"`), "b b"}, {inside(`"name":"n.a"`, fixed(`"name":"b","namespace":"m"`), `"m.b"`), "m.b m.b"}, {inside(`"name":"n.a"`, fixed(`"name":"b","namespace":"m"`), `"b"`), "9"},
		{inside(`"name":"n.a"`, inside(`"name":"m.c"`, fixed(`"name":"d"`)), `"m.d"`, fixed(`"name":"d"`), `"d"`), "m.c m.d n.d n.d"},
		{inside(`"name":"n.a"`, inside(`"name":"c"`, `"a"`), `"c"`), "n.c n.c"},
		{inside(`"name":"n.a"`, `{"type":{"type":"a"}}`), "n.a"}, {inside(`"name":"n.a"`, `{"type":"a","namespace":"m"}`), "n.a"}, {inside(`"name":"n.a"`, `{"type":"a","name":"b"}`, `"b"`), "9"},
		{inside(`"name":"n.a"`, fixed(`"name":"int"`), `"n.int"`), "n.int n.int"}, {inside(`"name":"n.a"`, fixed(`"name":"int"`), `"int"`), "n.int "}, {inside(`"name":"n.a"`, `".int"`), "9"},
		{inside(`"name":"array"`, `"array"`, `".array"`), "array array"}, {inside(`"name":"array"`, `{"type":"array"}`), "9"}, {inside(`"name":"record"`, `"record"`), "record"}, {inside(`"name":"record"`, `{"type":"record"}`), "6"},
		{inside(`"name":"a","aliases":["b"]`, `"b"`), "9"}, {inside(`"name":"a","aliases":["b"]`, fixed(`"name":"b"`)), "b"},
		{inside(`"name":"a"`, `"b"`, fixed(`"name":"b"`)), "9"}, {inside(`"name":"a"`, fixed(`"name":"b","aliases":["c"]`), `"c"`), "9"},
		{inside(`"name":"a"`, fixed(`"name":"a"`)), "7"}, {inside(`"name":"n.a"`, fixed(`"name":"a"`)), "7"}, {inside(`"name":"n.a"`, fixed(`"name":".a"`), fixed(`"name":"a","namespace":"m"`)), "a m.a"}, {inside(`"name":"a"`, fixed(`"name":"b"`), fixed(`"name":"b"`)), "7"}, {inside(`"name":"a"`, fixed(`"name":"b"`), `{"type":"enum","name":".b","symbols":1}`), "7"},
		{inside(`"name":"a"`, `"A"`), "9"}, {inside(`"name":"a"`, `"a "`), "9"}, {inside(`"name":"a"`, `""`), "9"}, {inside(`"name":"a"`, `"9"`), "9"}, {inside(`"name":"a"`, `"."`), "9"},
	}
	for _, x := range rows {
		s, e := schema.Parse(x.text)
		got := strconv.Itoa(int(e))
		if e == api.OK {
			var list []string
			for _, f := range s.Nodes[0].Fields {
				list = append(list, s.Nodes[f.Type].Name)
			}
			got = strings.Join(list, " ")
		}
		if got != x.want {
			t.Errorf("P5.1: Parse(%s): %s; want %s", x.text, got, x.want)
		}
	}
}

func TestWrong(t *testing.T) {
	enum := func(s string) string { return `{"type":"enum","name":"e",` + s + `}` }
	a := `{"name":"a","type":"int"}`
	rows := map[api.Errno][]string{
		api.ErrForm:  {"", "x", "[", `"int" "int"`, `["int",]`, "[1.5]", `{"type":"int"`, "\"\xff\""},
		api.ErrTwice: {`{"a":1,"a":1}`, `{"type":1,"type":"int"}`, enum(`"symbols":["A","A"]`), enum(`"symbols":["A","B","A",1],"default":1`), enum(`"symbols":["A","A","9"]`), fields(a, `{"name":"a"}`), fields(a, `{"name":"a","aliases":1,"type":1}`), fields(a, `{"name":"b","type":"int"}`, `{"name":"a","type":"int"}`), fields(a, `{"name":"b","type":{"type":"fixed","name":"r","aliases":1,"size":-1}}`)},
		api.ErrType: {"1", "null", "true", "false", "{}", "[]", `"foo"`, `"a"`, `""`, `"record"`, `"array"`, `"union"`, `"Int"`, `" int"`, `".int"`, `"n.int"`, `{"name":"int"}`, `{"type":1}`, `{"type":null}`, `{"type":true}`, `{"type":{}}`, `{"type":[]}`, `{"type":"foo"}`, `{"type":"union"}`, `{"type":{"type":{"type":1}}}`, `{"Type":"int"}`,
			`{"type":"array"}`, `{"type":"array","values":"int"}`, `{"type":"array","items":1}`, `{"type":"array","items":null}`, `{"type":"array","items":"foo"}`, `{"type":"map"}`, `{"type":"map","items":"int"}`, `{"type":"map","values":{}}`,
			`["int",1]`, `["int",[]]`, `["int","int"]`, `["null","int","null"]`, `[["int"]]`, `["int",{"type":["null"]}]`, `[{"type":"array","items":"int"},{"type":"array","items":"long"}]`, `[{"type":"map","values":"int"},"int",{"type":"map","values":"long"}]`, `["int",{"type":"int"}]`,
			`[{"type":"fixed","name":"f","size":1},"f"]`, `[{"type":"enum","name":"f","symbols":["A"]},"int","f"]`, fields(`{"name":"a","type":["r","int","r"]}`), fields(`{"name":"a","type":["int",["int","int"]]}`),
			`{"type":"record","name":"r"}`, `{"type":"record","name":"r","fields":{}}`, `{"type":"record","name":"r","fields":null}`, `{"type":"error","name":"r","fields":"a"}`, `{"type":"record","name":"r","Fields":[]}`, fields("1"), fields("null"), fields(`"a"`), fields(`["a"]`), fields(a, "[]"), fields(`{"name":"a"}`), fields(`{"name":"a","type":1}`), fields(`{"name":"a","type":"foo"}`), fields(`{"name":"a","aliases":[],"items":"int"}`),
			`{"type":"enum","name":"e"}`, enum(`"symbols":[]`), enum(`"symbols":"A"`), enum(`"symbols":{"A":1}`), enum(`"symbols":null,"default":1`), enum(`"symbols":[],"default":"A"`),
			`{"type":"fixed","name":"f"}`, `{"type":"fixed","name":"f","size":-1}`, `{"type":"fixed","name":"f","size":1001}`, `{"type":"fixed","name":"f","size":9999999999999999999}`, `{"type":"fixed","name":"f","size":-9999999999999999999}`, `{"type":"fixed","name":"f","size":"1"}`, `{"type":"fixed","name":"f","size":null}`, `{"type":"fixed","name":"f","size":[1]}`, `{"type":"fixed","name":"f","size":18446744073709551}`},
		api.ErrName: {enum(`"symbols":[1]`), enum(`"symbols":[""]`), enum(`"symbols":["A","9","A"]`), enum(`"symbols":["A",null]`), enum(`"symbols":["a.b"]`), enum(`"symbols":["A",["B"]]`), enum(`"symbols":["9"],"default":1`), enum(`"symbols":["` + strings.Repeat("A", api.MaxName+1) + `"]`),
			fields("{}"), fields(`{"type":1}`), fields(`{"name":1,"type":1}`), fields(`{"name":null}`), fields(`{"name":"","type":"int"}`), fields(`{"name":"9","type":"int"}`), fields(`{"name":"a.b","type":"int"}`), fields(`{"name":".a","type":"int"}`), fields(`{"name":"` + strings.Repeat("a", api.MaxName+1) + `","type":"int"}`),
			fields(`{"name":"a","type":"int","aliases":1}`), fields(`{"name":"a","type":"int","aliases":null}`), fields(`{"name":"a","type":"int","aliases":"b"}`), fields(`{"name":"a","type":"int","aliases":{}}`), fields(`{"name":"a","type":"int","aliases":["b",1]}`), fields(`{"name":"a","type":"int","aliases":["x.y"]}`), fields(`{"name":"a","aliases":["9"]}`), fields(`{"name":"a","type":"int","aliases":[".b"]}`), fields(`{"name":"a","type":"int","aliases":["b","","c"]}`), fields(a, `{"name":"9","type":1}`)},
		api.ErrDefault: {enum(`"symbols":["A"],"default":"B"`), enum(`"symbols":["A"],"default":1`), enum(`"symbols":["A"],"default":null`), enum(`"symbols":["A"],"default":["A"]`), enum(`"symbols":["A"],"default":"a"`), enum(`"symbols":["A"],"default":""`)},
	}
	for want, list := range rows {
		for _, text := range list {
			if e := fault(t, text); e != want {
				t.Errorf("P5.1: Parse(%.100s): error %d; want %d", text, e, want)
			}
		}
	}
}

// TestFirstWrong: of two things that are wrong, what stands first in the words' order counts.
func TestFirstWrong(t *testing.T) {
	rows := []struct {
		text string
		want api.Errno
	}{
		{`[1,{"type":"fixed"}]`, api.ErrType}, {`[{"type":"fixed"},1]`, api.ErrName}, {`["int","int",{"type":"fixed"}]`, api.ErrName}, {`[["int"],{"type":"fixed","name":"f"},{"type":"fixed"}]`, api.ErrType}, {`[["int"],{"type":"fixed"}]`, api.ErrName},
		{`["int","int",{"type":"enum","name":"e","symbols":["A"],"default":"B"}]`, api.ErrDefault},
		{`{"type":"fixed","name":"9","namespace":1,"aliases":1}`, api.ErrName}, {`{"type":"record","name":"a","aliases":["9"],"fields":1}`, api.ErrName}, {`{"type":"record","name":"a","fields":1,"aliases":[]}`, api.ErrType},
		{`[{"type":"fixed","name":"f","size":1},{"type":"fixed","name":"f","namespace":"9"}]`, api.ErrName}, {`[{"type":"fixed","name":"f","size":1},{"type":"fixed","name":"f","aliases":["9"]}]`, api.ErrTwice}, {`[{"type":"fixed","name":"f","size":1},{"type":"fixed","name":"f","size":-1}]`, api.ErrTwice},
		{fields(`{"name":"a","type":1}`, "1", "{}"), api.ErrType}, {fields("{}", "1"), api.ErrName}, {fields(`{"name":"a","type":"int"}`, `{"name":"a","type":"int"}`, "1"), api.ErrTwice}, {fields(`{"name":"a","type":"int"}`, `{"name":"a","type":1,"aliases":1}`), api.ErrTwice}, {fields(`{"name":"a","type":1,"aliases":1}`), api.ErrName},
		{fields(`{"name":"a","type":{"type":"fixed"},"default":1}`, "1"), api.ErrName}, {fields(`{"name":"a","type":"int","default":"x"}`, "{}"), api.ErrName}, {fields(`{"name":"a","type":"int","default":"x"}`, "1"), api.ErrType}, {fields(`{"name":"a","type":"int","default":"x"}`, `{"name":"a"}`), api.ErrTwice}, {fields(`{"name":"a","type":"int","default":"x"}`, `{"name":"b","type":{"type":"fixed","name":"f","size":-1}}`), api.ErrType},
		{fields(`{"name":"a","type":{"type":"enum","name":"e","symbols":["A"],"default":"B"}}`, "1"), api.ErrDefault}, {fields("1", `{"name":"a","type":{"type":"enum","name":"e","symbols":["A"],"default":"B"}}`), api.ErrType},
		{`{"type":"enum","name":"e","symbols":["A","A"],"default":"B"}`, api.ErrTwice}, {`{"type":"enum","name":"e","symbols":["A",1,"A"]}`, api.ErrName}, {`{"type":"enum","name":"e","symbols":["A","A",1]}`, api.ErrTwice},
		{`[1,x`, api.ErrForm}, {`[1,{"a":1,"a":1}]`, api.ErrTwice}, {"1" + strings.Repeat(" ", api.MaxSchema), api.ErrLimit},
	}
	for _, x := range rows {
		if e := fault(t, x.text); e != x.want {
			t.Errorf("P5.1: Parse(%.100s): error %d; want %d", x.text, e, x.want)
		}
	}
}

// wide is a record with so many fields of each of two types, the first one being what makes nodes.
func wide(nodes, more int) string {
	var list []string
	for i := range nodes - 1 {
		list = append(list, `{"name":"a`+strconv.Itoa(i)+`","type":"int"}`)
	}
	for i := range more {
		list = append(list, `{"name":"b`+strconv.Itoa(i)+`","type":"r"}`)
	}
	return fields(list...)
}

func TestLimits(t *testing.T) {
	most := strings.TrimSuffix(wide(api.MaxNodes, 0), "]}")
	arrays := strings.Repeat(`{"type":"array","items":`, api.MaxDepth)
	ends := strings.Repeat("}", api.MaxDepth)
	types := strings.Repeat(`{"type":`, api.MaxDepth)
	long := `"int"` + strings.Repeat(" ", api.MaxSchema-5)
	rows := []struct {
		text string
		want api.Errno
	}{
		{wide(api.MaxNodes, 0), api.OK}, {wide(api.MaxNodes, 100), api.OK}, {wide(api.MaxNodes+1, 0), api.ErrLimit}, {wide(api.MaxNodes+1, 1), api.ErrLimit},
		{most + `,{"name":"x","type":"r"}]}`, api.OK}, {most + `,{"name":"x","type":"foo"}]}`, api.ErrType}, {most + `,{"name":"x","type":"null"}]}`, api.ErrLimit}, {most + `,{"name":"x","type":[]}]}`, api.ErrLimit}, {most + `,{"name":"x","type":{}}]}`, api.ErrType}, {most + `,{"name":"x","type":{"type":1}}]}`, api.ErrType},
		{most + `,{"name":"x","type":{"type":"array"}}]}`, api.ErrLimit}, {most + `,{"name":"x","type":{"type":"map"}}]}`, api.ErrLimit}, {most + `,{"name":"x","type":{"type":"record"}}]}`, api.ErrLimit}, {most + `,{"name":"x","type":{"type":"error"}}]}`, api.ErrLimit}, {most + `,{"name":"x","type":{"type":"enum"}}]}`, api.ErrLimit}, {most + `,{"name":"x","type":{"type":"fixed","name":"r"}}]}`, api.ErrLimit},
		{most + `,{"name":"x","type":{"type":["r"]}}]}`, api.ErrLimit}, {most + `,{"name":"x","type":{"type":{"type":"r"}}}]}`, api.OK}, {most + `,{"name":"9","type":"int"}]}`, api.ErrName}, {most + `,{"name":"a0","type":"int"}]}`, api.ErrTwice}, {most + `,{"name":"x"}]}`, api.ErrType}, {most + ",1]}", api.ErrType},
		{`[` + strings.Repeat(`{"type":"array","items":"int"},`, 99) + `"int",1]`, api.ErrType}, {`[` + strings.Repeat(`{"type":"array","items":"int"},`, 100) + `1]`, api.ErrLimit},
		{arrays + `"int"` + ends, api.OK}, {arrays + `["int"]` + ends, api.ErrLimit}, {arrays + `{}` + ends, api.ErrLimit}, {arrays, api.ErrForm},
		{types + `"int"` + ends, api.OK}, {types + `["int"]` + ends, api.ErrLimit},
		{long, api.OK}, {long + " ", api.ErrLimit}, {strings.Repeat("[", api.MaxSchema), api.ErrLimit}, {strings.Repeat(" ", api.MaxSchema), api.ErrForm},
	}
	for _, x := range rows {
		if e := fault(t, x.text); e != x.want {
			t.Errorf("P5.1: Parse(%.60s .. of %d bytes): error %d; want %d", x.text, len(x.text), e, x.want)
		}
	}
	s, _ := schema.Parse(arrays + `"int"` + ends)
	for i, n := range s.Nodes[:api.MaxDepth] {
		if n.Kind != api.Array || n.Items != i+1 {
			t.Errorf("P5.1: the node %d of arrays within arrays: %+v", i, n)
		}
	}
}

func TestDefaults(t *testing.T) {
	of := func(inner, given string) string {
		return fields(`{"name":"a","type":` + inner + `,"default":` + given + `}`)
	}
	enum, fixed := `{"type":"enum","name":"e","symbols":["A","B"],"default":"B"}`, `{"type":"fixed","name":"f","size":2}`
	rows := []struct {
		text string
		want bool
	}{
		{of(`"null"`, "null"), true}, {of(`"boolean"`, "true"), true}, {of(`"int"`, "-2147483648"), true}, {of(`"long"`, "2147483648"), true}, {of(`"float"`, `"0123abef"`), true}, {of(`"double"`, `"0123456789abcdef"`), true}, {of(`"bytes"`, `"\u00ff"`), true}, {of(`"string"`, `"\u0100"`), true}, {of(enum, `"A"`), true}, {of(fixed, `"\u00ffa"`), true}, {of(`["null","int"]`, "null"), true}, {of(`{"type":"array","items":"int"}`, "[1,2]"), true}, {of(`{"type":"map","values":"int"}`, `{"b":1,"a":2}`), true}, {of(`["null","r"]`, "null"), true},
		{of(`"null"`, "0"), false}, {of(`"boolean"`, "1"), false}, {of(`"int"`, "2147483648"), false}, {of(`"int"`, `"1"`), false}, {of(`"int"`, "null"), false}, {of(`"long"`, "9223372036854775808"), false}, {of(`"float"`, "1"), false}, {of(`"double"`, `"0123abef"`), false}, {of(`"bytes"`, `"\u0100"`), false}, {of(`"string"`, "[]"), false}, {of(enum, `"C"`), false}, {of(enum, "0"), false}, {of(fixed, `"a"`), false}, {of(`["null","int"]`, "1"), false}, {of(`["int","null"]`, "null"), false}, {of(`{"type":"array","items":"int"}`, `[1,"a"]`), false}, {of(`{"type":"map","values":"int"}`, "[]"), false}, {of(`["r","null"]`, "null"), false},
		{of(`"r"`, "{}"), false}, {of(`"r"`, `{"a":{}}`), false}, {of(`{"type":"array","items":"r"}`, "[]"), true}, {of(`{"type":"array","items":"r"}`, `[{"a":[]},{"a":[{"a":[]}]}]`), true}, {of(`{"type":"array","items":"r"}`, "[{}]"), false}, {of(`{"type":"array","items":"r"}`, `[{"b":[]}]`), false},
		// a default that is filled by those of fields that are told behind it
		{fields(`{"name":"a","type":{"type":"array","items":"r"},"default":[{"a":[]}]}`, `{"name":"b","type":"int","default":1}`), true}, {fields(`{"name":"a","type":{"type":"array","items":"r"},"default":[{"a":[]}]}`, `{"name":"b","type":"int"}`), false}, {fields(`{"name":"a","type":{"type":"array","items":"r"},"default":[{"a":[],"b":2}]}`, `{"name":"b","type":"int"}`), true},
		// wrong ones of whichever field
		{fields(`{"name":"a","type":"int"}`, `{"name":"b","type":"int","default":null}`), false}, {fields(`{"name":"a","type":{"type":"record","name":"x","fields":[{"name":"b","type":"int","default":null}]}}`), false}, {`["null",` + of(`"int"`, "null") + `]`, false}, {`{"type":"map","values":` + of(`"int"`, "null") + `}`, false}, {fields(`{"name":"a","type":"int","default":1}`, `{"name":"b","type":"int","default":"1"}`, `{"name":"c","type":"int","default":1}`), false},
		// defaults within themselves
		{of(`{"type":"record","name":"x","fields":[{"name":"y","type":["null","x"],"default":null}]}`, "{}"), true}, {of(`{"type":"record","name":"x","fields":[{"name":"y","type":["x","null"],"default":{}}]}`, "{}"), false},
		{of(`"string"`, `"`+strings.Repeat(`\n`, 3333)+`"`), true}, {of(`"string"`, `"`+strings.Repeat(`\n`, 3334)+`"`), false}, {of(`"string"`, `"`+strings.Repeat("a", 19000)+`"`), true},
	}
	for _, x := range rows {
		want := api.ErrDefault
		if x.want {
			want = api.OK
		}
		if e := fault(t, x.text); e != want {
			t.Errorf("P5.1: Parse(%.120s): error %d; want %d", x.text, e, want)
		}
	}
}

// members is the text of a record with so many fields of each type, all with the default {}.
func members(name string, types ...string) string {
	var list []string
	for i, x := range types {
		list = append(list, `{"name":"a`+strconv.Itoa(i)+`","type":"`+x+`","default":{}}`)
	}
	return `{"type":"record","name":"` + name + `","fields":[` + strings.Join(list, ",") + "]}"
}

// TestDefaultsOfMuch: a default may be as many as MaxItems values, and as deep as MaxDepth, and no more.
func TestDefaultsOfMuch(t *testing.T) {
	for n, want := range map[int]api.Errno{99: api.OK, 100: api.ErrDefault} {
		// x is 1 value, with 99 of y of 100 values each, and n of z
		y, z := slices.Repeat([]string{"y"}, 99), slices.Repeat([]string{"z"}, n)
		text := fields(`{"name":"z","type":`+members("z")+`}`, `{"name":"y","type":`+members("y", slices.Repeat([]string{"z"}, 99)...)+`}`, `{"name":"x","type":`+members("x", append(y, z...)...)+`,"default":{}}`)
		if e := fault(t, text); e != want {
			t.Errorf("P5.1: a default of %d values: error %d; want %d", 9901+n, e, want)
		}
	}
	for n, want := range map[int]api.Errno{api.MaxDepth: api.OK, api.MaxDepth + 1: api.ErrDefault} {
		list := []string{`{"name":"x1","type":` + members("c1") + `}`}
		for i := 2; i <= n; i++ {
			list = append(list, `{"name":"x`+strconv.Itoa(i)+`","type":`+members("c"+strconv.Itoa(i), "c"+strconv.Itoa(i-1))+`}`)
		}
		list = append(list, `{"name":"last","type":"c`+strconv.Itoa(n)+`","default":{}}`)
		if e := fault(t, fields(list...)); e != want {
			t.Errorf("P5.1: a default %d deep: error %d; want %d", n, e, want)
		}
	}
}

const all = `{"type":"record","name":"n.a","aliases":["b","c"],"fields":[{"name":"x","aliases":["y","z"],"type":["null","a",{"type":"enum","name":"e","symbols":["A","B"],"default":"B","aliases":["f","g"]}],"default":null},{"name":"y","type":{"type":"fixed","name":"h","size":3,"aliases":["i"]},"aliases":["y","z"]}]}`

func parsed(t *testing.T, text string) api.Schema {
	t.Helper()
	s, e := schema.Parse(text)
	if e != api.OK {
		t.Fatalf("P5.1: Parse(%.100s): error %d", text, e)
	}
	return s
}

func TestNodes(t *testing.T) {
	for _, s := range []api.Schema{{}, {Nodes: []api.Node{}}, parsed(t, `"int"`), parsed(t, all), {Nodes: []api.Node{{}, {Kind: -1, Items: -7, Branches: []int{99}}, {Kind: 99, Size: -1, Fields: []api.Field{{Type: -1}}, Has: true, Default: "x", Symbols: []string{""}}}}} {
		nodes := schema.Nodes(s)
		for range 2 {
			var got []api.Node
			for at, n := range nodes {
				if at != len(got) {
					t.Errorf("P5.2: the node %d has the place %d", len(got), at)
				}
				got = append(got, n)
			}
			if !same(got, s.Nodes) {
				t.Errorf("P5.2: Nodes tells %+v; want %+v", got, s.Nodes)
			}
		}
		for most := 1; most <= len(s.Nodes); most++ {
			calls := 0
			nodes(func(int, api.Node) bool { calls++; return calls < most })
			if calls != most {
				t.Errorf("P5.2: told to end at %d, it goes on to %d", most, calls)
			}
		}
	}
}

func TestNodesTellWhatWasThere(t *testing.T) {
	s := parsed(t, all)
	want := copied(s.Nodes)
	nodes := schema.Nodes(s)
	for _, n := range s.Nodes {
		spoil(n)
	}
	fill(s.Nodes, api.Node{Kind: 99})
	for range 3 {
		var got []api.Node
		for _, n := range nodes {
			got = append(got, copied([]api.Node{n})[0])
			spoil(n)
		}
		if !same(got, want) {
			t.Errorf("R1, R3: Nodes behind a change tells %+v; want %+v", got, want)
		}
	}
}

func TestHandedInStays(t *testing.T) {
	s := api.Schema{Nodes: copied(parsed(t, all).Nodes)}
	want := copied(s.Nodes)
	for _, n := range schema.Nodes(s) {
		spoil(n)
	}
	isText, isNumber := func(s string) bool { return s == "behind" }, func(n int) bool { return n == 77 }
	right := same(s.Nodes, want) && behind(s.Nodes, func(n api.Node) bool { return n.Kind == 77 })
	for _, n := range s.Nodes {
		right = right && behind(n.Aliases, isText) && behind(n.Symbols, isText) && behind(n.Branches, isNumber) && behind(n.Fields, func(f api.Field) bool { return f.Name == "behind" })
		for _, f := range n.Fields {
			right = right && behind(f.Aliases, isText)
		}
	}
	if !right {
		t.Errorf("R3: what was handed to Nodes was changed: %+v", s.Nodes)
	}
}

func TestHandedOutIsNew(t *testing.T) {
	want := copied(parsed(t, all).Nodes)
	// what is written into one list, and the room behind it, is seen in no other
	s := parsed(t, all)
	for i := range s.Nodes {
		got := slices.Clone(s.Nodes)
		spoil(s.Nodes[i])
		got[i] = want[i]
		if !same(got, want) {
			t.Fatalf("R3: a change of the node %d changes others: %+v", i, got)
		}
		s = parsed(t, all)
		if !same(s.Nodes, want) {
			t.Fatalf("R3: what Parse tells hangs on what it told before: %+v", s.Nodes)
		}
	}
	fill(s.Nodes[0].Fields[0].Aliases, "#")
	fill(s.Nodes[0].Aliases, "#")
	if !slices.Equal(s.Nodes[0].Fields[1].Aliases, []string{"y", "z"}) {
		t.Errorf("R3: lists of one node share memory: %+v", s.Nodes[0])
	}
}
