package check_test

import (
	"math"
	"strconv"
	"strings"
	"testing"

	"courant/api"
	"courant/canon"
	"courant/check"
	"courant/schema"
)

// parsed is the schema of a text; it is right.
func parsed(t *testing.T, text string) api.Schema {
	t.Helper()
	s, fault := schema.Parse(text)
	if fault != api.OK || !canon.Right(s) {
		t.Fatalf("the schema %.300s: error %d, or not right", text, fault)
	}
	return s
}

// of is a schema of these nodes.
func of(n ...api.Node) api.Schema { return api.Schema{Nodes: n} }

// record is the text of one; each field is name:type, or name:type=default, or name|alias|..:type.
func record(name string, fields ...string) string {
	texts := make([]string, len(fields))
	for i, f := range fields {
		head, rest, _ := strings.Cut(f, ":")
		names := strings.Split(head, "|")
		kind, preset, has := strings.Cut(rest, "=")
		texts[i] = `{"name":"` + names[0] + `","type":` + kind
		if len(names) > 1 {
			texts[i] += `,"aliases":["` + strings.Join(names[1:], `","`) + `"]`
		}
		if has {
			texts[i] += `,"default":` + preset
		}
		texts[i] += "}"
	}
	return named("record", name, `"fields":[`+strings.Join(texts, ",")+"]")
}

// named is the text of a definition; its name is name, or name|alias|..
func named(kind, name, rest string) string {
	names := strings.Split(name, "|")
	out := `{"type":"` + kind + `","name":"` + names[0] + `",`
	if len(names) > 1 {
		out += `"aliases":["` + strings.Join(names[1:], `","`) + `"],`
	}
	return out + rest + "}"
}

// enum is the text of one of these symbols, of which the one behind = is the default.
func enum(name, symbols string) string {
	list, preset, has := strings.Cut(symbols, "=")
	rest := `"symbols":["` + strings.Join(strings.Fields(list), `","`) + `"]`
	if has {
		rest += `,"default":"` + preset + `"`
	}
	return named("enum", name, rest)
}

func fixed(name, size string) string { return named("fixed", name, `"size":`+size) }
func array(items string) string      { return `{"type":"array","items":` + items + `}` }
func table(values string) string     { return `{"type":"map","values":` + values + `}` }
func union(types ...string) string   { return "[" + strings.Join(types, ",") + "]" }

// row is texts of two schemas, and whether the second one reads the first one.
type row struct {
	w, r string
	is   bool
}

func holdRows(t *testing.T, rows []row) {
	t.Helper()
	for i, x := range rows {
		if is := check.Reads(parsed(t, x.w), parsed(t, x.r)); is != x.is {
			t.Errorf("P12.1: Reads of the row %d: %v; %s and %s", i, is, x.w, x.r)
		}
	}
}

func TestKinds(t *testing.T) {
	texts := []string{`"null"`, `"boolean"`, `"int"`, `"long"`, `"float"`, `"double"`, `"bytes"`, `"string"`, record("a"), enum("a", "A"), array(`"int"`), table(`"int"`), fixed("a", "3")}
	for _, w := range texts {
		for _, r := range texts {
			is := w == r || w == `"int"` && r == `"long"` || w == `"string"` && r == `"bytes"`
			// Lists, unions and fields of them are read just as they are.
			holdRows(t, []row{
				{w, r, is}, {array(w), array(r), is}, {table(w), table(r), is}, {array(w), table(r), false}, {table(w), array(r), false}, {array(table(w)), array(table(r)), is},
				{record("x", "f:"+w), record("x", "f:"+r), is}, {union(w), r, is}, {w, union(r), is}, {union(w), union(r), is}, {array(union(w)), array(union(r)), is}, {record("x", "f:"+union(w)), record("x", "f:"+r), is},
			})
		}
	}
}

func TestUnions(t *testing.T) {
	a, other := record("n.a", `x:"int"`), record("m.a", `y:"int"`)
	holdRows(t, []row{
		// Of the writer's all branches are asked.
		{`["int","null"]`, `"int"`, false}, {`["null","int"]`, `"int"`, false}, {`["int","long"]`, `"long"`, true}, {`["string","bytes"]`, `"bytes"`, true}, {`["bytes","string"]`, `"string"`, false}, {`["int","null","string"]`, `["bytes","null","long"]`, true}, {`["int","null","string"]`, `["bytes","long"]`, false}, {`["int","null","string"]`, `["null","long"]`, false}, {`["int","null","string"]`, `["bytes","null"]`, false},
		// Of the reader's there has to be one.
		{`"int"`, `["null","int"]`, true}, {`"int"`, `["string","long"]`, true}, {`"long"`, `["int"]`, false}, {`"long"`, `["int","null"]`, false}, {`"null"`, `["null"]`, true}, {`"string"`, `["null","bytes","string"]`, true}, {`["null"]`, `["null","int"]`, true}, {`["null","int"]`, `["null"]`, false},
		// The first one that matches is taken, though another one might read it.
		{record("a", `x:"int"`), union(other, a), false}, {record("a", `x:"int"`), union(a, other), true}, {record("a", `y:"int"`), union(a, other), false}, {record("n.a", `x:"int"`), union(other, a), false}, {record("a", `x:"int"`), union(record("b", `x:"int"`), a), true}, {record("a", `x:"int"`), union(record("b|a", `y:"int"`), a), false},
		{array(`"int"`), union(`"null"`, array(`"long"`)), true}, {array(`"long"`), union(`"null"`, array(`"int"`)), false}, {array(`["long"]`), union(`"null"`, array(`"int"`)), false}, {array(`["int"]`), union(array(`"long"`), `"null"`), true}, {table(`["int","null"]`), union(array(`["null"]`), table(`["null","long"]`)), true}, {table(`["int","null"]`), union(table(`["long"]`), `"null"`), false},
		// Within others.
		{record("r", `f:["null","int"]`), record("r", `f:["null","long"]`), true}, {record("r", `f:["null","int"]`), record("r", `f:"long"`), false}, {record("r", `f:["null","int"]`), record("r", `f:"null"`), false}, {array(union(`"null"`, array(`["int","null"]`))), array(union(array(`["null","long"]`), `"null"`)), true}, {array(union(`"null"`, array(`["int","null"]`))), array(union(array(`["null"]`), `"null"`)), false},
	})
}

func TestEnums(t *testing.T) {
	holdRows(t, []row{
		{enum("e", "A B"), enum("e", "A B"), true}, {enum("e", "A B"), enum("e", "B A"), true}, {enum("e", "A"), enum("e", "B A"), true}, {enum("e", "A B"), enum("e", "A"), false}, {enum("e", "B A"), enum("e", "A"), false}, {enum("e", "A B C"), enum("e", "A C"), false}, {enum("e", "A"), enum("e", "a"), false}, {enum("e", "A"), enum("e", "B"), false},
		{enum("e", "A B"), enum("e", "A=A"), true}, {enum("e", "A"), enum("e", "B=B"), true}, {enum("e", "A B=A"), enum("e", "A"), false}, {enum("e", "A=A"), enum("e", "A B"), true}, {enum("e", "A=A"), enum("e", "B"), false},
		// A name has to be there, default or not.
		{enum("e", "A"), enum("f", "A"), false}, {enum("e", "A"), enum("f", "A=A"), false}, {enum("n.e", "A"), enum("m.e", "A"), true}, {enum("e", "A"), enum("f|e", "A"), true}, {enum("e", "A"), enum("f|e", "B"), false}, {enum("e|f", "A"), enum("f", "A"), false},
		{array(enum("e", "A B")), array(enum("e", "A")), false}, {table(enum("e", "A B")), table(enum("e", "A=A")), true}, {record("r", "x:"+enum("e", "A B")), record("r", "x:"+enum("e", "A")), false}, {union(enum("e", "A B"), `"null"`), union(`"null"`, enum("e", "A")), false},
		// The first branch of the name is taken.
		{enum("e", "A"), union(enum("n.e", "B"), enum("m.e", "A")), false}, {enum("e", "A"), union(enum("n.e", "B=B"), enum("m.e", "A")), true}, {enum("e", "A"), union(enum("n.e", "A"), enum("m.e", "B")), true},
	})
}

func TestFixeds(t *testing.T) {
	holdRows(t, []row{
		{fixed("f", "2"), fixed("f", "2"), true}, {fixed("f", "2"), fixed("f", "3"), false}, {fixed("f", "0"), fixed("f", "0"), true}, {fixed("f", "2"), fixed("g", "2"), false}, {fixed("n.f", "2"), fixed("m.f", "2"), true}, {fixed("f", "2"), fixed("g|f", "2"), true}, {fixed("f", "2"), fixed("g|f", "3"), false}, {fixed("f|g", "2"), fixed("g", "2"), false},
		{fixed("f", "2"), union(fixed("n.f", "3"), fixed("m.f", "2")), true}, {array(fixed("f", "2")), array(fixed("f", "3")), false}, {fixed("f", "2"), `"bytes"`, false}, {record("r", "x:"+fixed("f", "2")), record("r", "x:"+fixed("f", "3")), false},
	})
}

func TestRecords(t *testing.T) {
	holdRows(t, []row{
		{record("r"), record("r"), true}, {record("r"), record("s"), false}, {record("n.r"), record("m.r"), true}, {record("r"), record("s|r"), true}, {record("r|s"), record("s"), false}, {record("n.r"), record("s|r"), false}, {record("n.r"), record("s|n.r"), true},
		// What the writer has more plays no part.
		{record("r", `a:"int"`, `b:"long"`), record("r"), true}, {record("r", `a:"int"`, `b:"long"`), record("r", `a:"int"`), true}, {record("r", `a:"int"`, `b:"long"`), record("r", `b:"long"`, `a:"int"`), true}, {record("r", `a:"int"`, `b:"long"`), record("r", `b:"int"`, `a:"int"`), false},
		// What the reader has more needs a default.
		{record("r"), record("r", `a:"int"`), false}, {record("r"), record("r", `a:"int"=1`), true}, {record("r"), record("r", `a:"int"=1`, `b:"int"`), false}, {record("r"), record("r", `b:"int"`, `a:"int"=1`), false}, {record("r", `a:"int"`), record("r", `a:"int"`, `b:["null","int"]`), false}, {record("r", `a:"int"`), record("r", `b:["null","int"]=null`, `a:"int"`), true}, {record("r", `a:"int"=1`), record("r", `b:"int"`), false}, {record("r", `A:"int"`), record("r", `a:"int"`), false},
		// A default does not help a field that is there.
		{record("r", `a:"long"`), record("r", `a:"int"=1`), false}, {record("r", `a:"int"`), record("r", `a:"long"=1`), true}, {record("r", `a:["null","int"]`), record("r", `a:"int"=1`), false},
		// Aliases: the reader's own, in order, behind its name.
		{record("r", `a:"int"`), record("r", `b|a:"int"`), true}, {record("r", `a:"int"`), record("r", `b|a:"string"`), false}, {record("r", `a:"int"`), record("r", `b|a:"string"="x"`), false}, {record("r", `b|a:"int"`), record("r", `a:"int"`), false}, {record("r", `a:"string"`, `b:"int"`), record("r", `b|a:"int"`), true}, {record("r", `a:"int"`, `b:"string"`), record("r", `b|a:"int"`), false}, {record("r", `a:"int"`, `b:"string"`), record("r", `c|a|b:"int"`), true}, {record("r", `a:"int"`, `b:"string"`), record("r", `c|b|a:"int"`), false}, {record("r", `a:"int"`), record("r", `c|b|a:"int"`), true}, {record("r", `a:"int"`), record("r", `a:"long"`, `b|a:"int"`, `c|a:["int"]`), true}, {record("r", `a:"long"`), record("r", `a:"long"`, `b|a:"int"`), false},
		// Records in records.
		{record("r", "a:"+record("s", `x:"int"`)), record("r", "a:"+record("s", `x:"long"`)), true}, {record("r", "a:"+record("s", `x:"int"`)), record("r", "a:"+record("s", `y:"long"`)), false}, {record("r", "a:"+record("s", `x:"int"`)), record("r", "a:"+record("t", `x:"int"`)), false}, {record("r", "a:"+record("s"), `b:"s"`), record("r", "a:"+record("s"), "b:"+record("n.s", `x:"int"=1`)), true}, {record("r", "a:"+record("s"), `b:"s"`), record("r", "a:"+record("s"), "b:"+record("n.s", `x:"int"`)), false},
		{array(record("s", `x:"int"`)), array(record("s", `y:"int"`)), false}, {table(record("s", `x:"int"`)), table(record("s", `y:"int"=5`)), true},
	})
}

// TestLeadBack: pairs that lead back to themselves hold, unless something else speaks against it.
func TestLeadBack(t *testing.T) {
	list := func(name, of string) string { return record(name, "v:"+of, `next:["null","`+name+`"]`) }
	turned := func(name, of string) string { return record(name, `next:["null","`+name+`"]`, "v:"+of) }
	// Two records, each with the other one next.
	two := func(one, other string) string {
		return record("n.a", "v:"+one, "next:"+union(`"null"`, record("m.a", "v:"+other, `next:["null","n.a"]`)))
	}
	three := func(one, other, third string) string {
		return record("n.a", "v:"+one, "next:"+union(`"null"`, record("m.a", "v:"+other, "next:"+union(`"null"`, record("o.a", "v:"+third, `next:["null","n.a"]`)))))
	}
	i, l := `"int"`, `"long"`
	holdRows(t, []row{
		{list("l", i), list("l", l), true}, {list("l", l), list("l", i), false}, {list("l", i), turned("l", l), true}, {turned("l", l), turned("l", i), false}, {turned("l", l), list("l", i), false}, {list("l", i), list("m", i), false},
		{list("a", i), two(i, l), true}, {list("a", l), two(l, i), false}, {list("a", l), two(i, l), false}, {two(i, l), list("a", l), true}, {two(i, l), list("a", i), false}, {two(i, i), two(l, i), true}, {two(i, l), two(l, i), false}, {two(i, l), two(i, l), true}, {two(i, l), two(l, l), true},
		{two(i, l), three(l, l, l), true}, {two(i, l), three(i, l, l), false}, {two(i, l), three(l, l, i), false}, {two(i, i), three(i, l, i), true}, {three(i, i, i), two(i, l), true}, {three(i, i, l), two(i, l), false}, {three(i, l, l), two(l, l), true},
		{record("t", "v:"+i, "of:"+array(`"t"`)), record("t", "of:"+array(`"t"`), "v:"+l), true}, {record("t", "v:"+l, "of:"+array(`"t"`)), record("t", "of:"+array(`"t"`), "v:"+i), false}, {record("t", "of:"+table(`"t"`)), record("t", "of:"+table(`"t"`), `x:"int"=1`), true}, {record("t", "of:"+table(`"t"`)), record("t", "of:"+table(`"t"`), `x:"int"`), false}, {record("t", "of:"+table(`"t"`)), record("t", "of:"+array(`"t"`)), false},
		{array(list("l", i)), array(list("l", l)), true}, {array(list("l", l)), array(list("l", i)), false}, {record("r", "a:"+list("l", i), `b:"l"`), record("r", "a:"+list("l", i), "b:"+list("n.l", l)), true}, {record("r", "a:"+list("l", i), `b:"l"`), record("r", "a:"+list("l", i), "b:"+list("n.l", `"string"`)), false},
	})
}

// TestNotLive: what has no value is read by all, but only where it comes to be asked.
func TestNotLive(t *testing.T) {
	dead := record("d", `x:"d"`)
	holdRows(t, []row{
		{dead, `"int"`, true}, {dead, dead, true}, {dead, union(`"null"`), true}, {dead, array(dead), true}, {dead, record("d", `y:"int"`), true}, {union(dead), `"int"`, true}, {record("d", `x:["d"]`), `"null"`, true}, {record("a", "x:"+record("b", `y:["a","b"]`)), `"null"`, true}, {record("r", `a:"long"`, "b:"+dead), record("r", `a:"int"`, `c:"int"`), true}, {record("r", `a:"long"`, "b:"+dead), record("s"), true},
		// Branches that have none.
		{union(`"null"`, dead), `"null"`, true}, {union(dead, `"int"`), `"long"`, true}, {union(dead, `"long"`), `"int"`, false}, {union(dead, `"null"`), union(dead), false}, {union(`"null"`, dead, record("e", `x:"e"`)), union(`"int"`, `"null"`), true}, {record("d", `x:["null","d"]`), record("d", `x:"null"`), false}, {record("r", "x:"+union(`"null"`, dead)), record("r", `x:"null"`), true},
		// Lists have a value, and have to match, but nothing is asked of what is in them.
		{array(dead), array(dead), true}, {array(dead), array(record("d", `q:"int"`)), true}, {table(dead), table(record("n.d", `q:"int"`)), true}, {array(dead), array(record("e")), false}, {array(dead), array(`"int"`), false}, {array(dead), table(dead), false}, {array(dead), `"null"`, false}, {array(dead), array(union(`"int"`)), true}, {array(union(dead)), array(`"int"`), true}, {array(array(dead)), array(array(`"int"`)), false}, {array(array(dead)), array(array(record("d", `q:"int"`))), true}, {array(dead), union(array(`"int"`)), false}, {array(dead), union(`"null"`, array(union(`"int"`))), true}, {record("r", "a:"+array(dead), `b:"long"`), record("r", `b:"int"`, "a:"+array(dead)), false},
		// The reader's may have none: of what the writer has, nothing is read as that.
		{`"int"`, dead, false}, {record("d", `x:"int"`), dead, false}, {record("d", `x:["null","d"]`), dead, false}, {record("d"), dead, false}, {`"int"`, union(dead, `"int"`), true}, {record("d"), union(dead, `"int"`), false}, {array(record("d")), array(dead), false}, {array(`"int"`), array(dead), false}, {record("r", "a:"+array(record("d"))), record("r", "a:"+array(dead)), false}, {record("r"), record("r", "a:"+array(dead)+"=[]"), true},
	})
}

// TestFirst: schemas without a first node read nothing, and are not read; each schema is asked from its first node on.
func TestFirst(t *testing.T) {
	dead, whole := parsed(t, record("d", `x:"d"`)), parsed(t, `"int"`)
	for _, s := range []api.Schema{dead, whole, {}, {Nodes: []api.Node{}}} {
		if check.Reads(s, api.Schema{}) || check.Reads(api.Schema{}, s) {
			t.Errorf("P12.1: no nodes read, or are read by, %+v", s)
		}
	}
	i, l := api.Node{Kind: api.Int}, api.Node{Kind: api.Long}
	if !check.Reads(of(i, l), of(l, i)) || check.Reads(of(l, i), of(i, l)) {
		t.Error("P12.1: other nodes than the first ones play a part")
	}
}

// many is as many nodes as there may be: a union of records of one name, or records that have each of the writer's union as a field.
func many(t *testing.T, wrong int) (w, r api.Schema) {
	t.Helper()
	var types, fields []string
	for k := range api.MaxNodes - 2 {
		at := strconv.Itoa(k)
		types = append(types, record("n"+at+".a"))
		if k == wrong {
			fields = append(fields, "f"+at+"|f:"+record("n"+at+".a", `x:"int"`))
			break
		}
		fields = append(fields, "f"+at+"|f:"+record("n"+at+".a"))
	}
	return parsed(t, record("r", "f:"+union(types...))), parsed(t, record("r", fields...))
}

// TestMany asks as many pairs as there are of two right schemas.
func TestMany(t *testing.T) {
	const most = api.MaxNodes - 2
	w, r := many(t, -1)
	count, pairs := 0, map[[2]int]int{}
	for i, k := range check.Pairs(w, r) {
		count++
		pairs[[2]int{i, k}]++
	}
	if want := 1 + most + most*most; count != want || len(pairs) != want || !check.Reads(w, r) {
		t.Errorf("P12.1: %d pairs, %d unlike; want %d", count, len(pairs), want)
	}
	for _, wrong := range []int{0, 100, most - 2} {
		if w, r := many(t, wrong); check.Reads(w, r) {
			t.Errorf("P12.1: Reads, though the field %d is not filled", wrong)
		}
	}
}

// away are places that are not there, of so many nodes.
func away(size int) []int { return []int{-1, size, size + 1, math.MinInt, math.MaxInt, 1 << 40} }

// TestAway: a place that is not there has no value, and reads none.
func TestAway(t *testing.T) {
	null, list := api.Node{Kind: api.Null}, func(kind, at int) api.Node { return api.Node{Kind: kind, Items: at} }
	row := func(at int) api.Node {
		return api.Node{Kind: api.Record, Name: "r", Fields: []api.Field{{Name: "f", Type: at}}}
	}
	for _, at := range away(2) {
		choice := api.Node{Kind: api.Union, Branches: []int{at, 1}}
		for _, x := range []struct {
			w, r api.Schema
			is   bool
		}{
			{of(row(at), null), of(null), true}, {of(row(1), null), of(row(at), null), false}, {of(row(1), row(1)), of(row(at), null), true}, {of(choice, null), of(null), true}, {of(null), of(choice, null), true}, {of(choice, null), of(choice, null), true}, {of(choice, null), of(choice, api.Node{Kind: api.Int}), false},
			{of(list(api.Array, at), null), of(list(api.Array, at), null), false}, {of(list(api.Map, at), null), of(list(api.Map, 1), null), false}, {of(list(api.Map, 1), null), of(list(api.Map, at), null), false}, {of(list(api.Array, at), null), of(choice, null), false}, {of(list(api.Array, at), null), of(choice, list(api.Array, 0)), false},
			{of(row(1), api.Node{Kind: api.Union, Branches: []int{at, 2}}, null), of(row(at), null), false}, {of(row(1), api.Node{Kind: api.Union, Branches: []int{at}}), of(row(at), null), true},
		} {
			if is := check.Reads(x.w, x.r); is != x.is {
				t.Errorf("P12.1: Reads of %+v and %+v: %v", x.w, x.r, is)
			}
			for range check.Pairs(x.w, x.r) {
			}
		}
	}
}
