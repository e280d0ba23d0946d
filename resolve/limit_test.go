package resolve_test

import (
	"reflect"
	"strconv"
	"strings"
	"testing"

	"courant/api"
	"courant/codec"
	"courant/resolve"
	"courant/value"
)

// most is how many items an array may have, so that all of it are as many values as may come.
const most = api.MaxItems - 1

// maps is a map of so many ints.
func maps(n int) api.Value {
	v := api.Value{Kind: api.Map}
	for i := range n {
		v.Keys, v.L = append(v.Keys, strconv.Itoa(i)), append(v.L, num(api.Int, 3))
	}
	return v
}

// chain is so many arrays, each within the one ahead.
func chain(n int) api.Value {
	v := list(api.Array)
	for range n - 1 {
		v = list(api.Array, v)
	}
	return v
}

// holdCount holds an answer by its count and its error alone.
func holdCount(t *testing.T, what string, w, r api.Schema, v api.Value, count int, want api.Errno) {
	t.Helper()
	got, fault := resolve.Value(w, r, v)
	if fault != want || fault == api.OK && (value.Count(got) != count || !value.Fits(r, 0, got)) || fault != api.OK && !same(got, api.Value{}) {
		t.Errorf("P10.1: %s: %d values, error %d; want %d, error %d", what, value.Count(got), fault, count, want)
	}
}

// TestLimit: what comes is at most MaxItems values, whatever it comes of.
func TestLimit(t *testing.T) {
	three := num(api.Int, 3)
	ints := `{"name":"a","type":` + array(`"int"`) + `}`
	twice := ints + `,{"name":"b","aliases":["a"],"type":` + array(`"int"`) + `}`
	hundred := `{"name":"a","type":` + array(`"string"`) + `,"default":[` + strings.Repeat(`"x",`, 99) + `"x"]}`
	rows := []struct {
		what, w, r string
		v          api.Value
		count      int // 0: too many
	}{
		{"an array", array(`"int"`), array(`"long"`), many(most, three), api.MaxItems}, {"an array", array(`"int"`), array(`"long"`), many(most+1, three), 0}, {"an array", array(`"int"`), array(`"int"`), many(300000, three), 0},
		{"a map", dict(`"int"`), dict(`"long"`), maps(most), api.MaxItems}, {"a map", dict(`"int"`), dict(`"long"`), maps(most + 1), 0},
		{"unions", array(`"int"`), array(`["int"]`), many(most/2, three), most}, {"unions", array(`"int"`), array(`["int"]`), many(most/2+1, three), 0}, {"unions", array(`"int"`), "[" + array(`["int"]`) + "]", many(most/2, three), api.MaxItems},
		{"the writer's unions", array(`["int"]`), array(`"int"`), many(most, one(0, three)), api.MaxItems}, {"the writer's unions", array(`["int"]`), array(`"int"`), many(most+1, one(0, three)), 0},
		{"what is not read", record("r", ints), record("r", `{"name":"b","type":"int","default":1}`), list(api.Record, many(30000, three)), 2},
		{"what is read twice", record("r", ints), record("r", twice), list(api.Record, many(4998, three)), 9999}, {"what is read twice", record("r", ints), record("r", twice), list(api.Record, many(4999, three)), 0},
		{"records", array(record("r", "")), array(record("r", "")), many(most, list(api.Record)), api.MaxItems}, {"records", array(record("r", "")), array(record("r", "")), many(most+1, list(api.Record)), 0},
		{"defaults", array(record("r", "")), array(record("r", hundred)), many(98, list(api.Record)), 1 + 98*102}, {"defaults", array(record("r", "")), array(record("r", hundred)), many(99, list(api.Record)), 0},
	}
	for i, x := range rows {
		want := api.OK
		if x.count == 0 {
			want = api.ErrLimit
		}
		holdCount(t, x.what+", row "+strconv.Itoa(i), parsed(t, x.w), parsed(t, x.r), x.v, x.count, want)
	}
}

// TestLimitOfDefaults: one that has too many values by itself is none; one that is too much together with the rest is too much.
func TestLimitOfDefaults(t *testing.T) {
	w, r := parsed(t, record("r", "")), parsed(t, record("r", `{"name":"a","type":`+array(record("q", `{"name":"b","type":"int","default":1}`))+`,"default":[]}`))
	// Each record of the default is two values: it, and its field.
	for n, want := range map[int]api.Errno{4999: api.OK, 5000: api.ErrMatch, 4000: api.OK} {
		r.Nodes[0].Fields[0].Default = "[" + strings.Repeat("{},", n-1) + "{}]"
		holdCount(t, strconv.Itoa(n)+" records of a default", w, r, list(api.Record), 2+2*n, want)
	}
	r = parsed(t, record("r", `{"name":"a","type":`+array(`"int"`)+`,"default":[]}`))
	for n, want := range map[int]api.Errno{most - 1: api.OK, most: api.ErrLimit, most + 1: api.ErrMatch} { // of the last one the text is too long
		r.Nodes[0].Fields[0].Default = "[" + strings.Repeat("1,", n-1) + "1]"
		holdCount(t, strconv.Itoa(n)+" items of a default", w, r, list(api.Record), 2+n, want)
	}
}

// TestFirstFault: of a value that is not read, and one that is too many, what comes first counts.
func TestFirstFault(t *testing.T) {
	a, b := num(api.Enum, 0), num(api.Enum, 1)
	from, to := parsed(t, array(enum("e", `"A","B"`))), parsed(t, array(enum("e", `"A"`)))
	for at, want := range map[int]api.Errno{0: api.ErrMatch, most - 1: api.ErrMatch, most: api.ErrMatch, most + 1: api.ErrLimit, 2 * most: api.ErrLimit} {
		v := many(2*most+1, a)
		v.L[at] = b
		holdCount(t, "a symbol that is not there, at "+strconv.Itoa(at), from, to, v, 0, want)
	}
	// A union whose branch is not there does not come; one that comes is counted ahead of what is in it.
	from, to = parsed(t, array(`["int","null"]`)), parsed(t, array(`["int"]`))
	for at, want := range map[int]api.Errno{0: api.ErrMatch, most / 2: api.ErrMatch, most/2 + 1: api.ErrLimit} {
		v := many(most, one(0, num(api.Int, 3)))
		v.L[at] = one(1, num(api.Null, 0))
		holdCount(t, "a branch that is not there, at "+strconv.Itoa(at), from, to, v, 0, want)
	}
	from, to = parsed(t, array(enum("e", `"A","B"`))), parsed(t, array("["+enum("e", `"A"`)+"]"))
	for at, want := range map[int]api.Errno{most/2 - 1: api.ErrMatch, most / 2: api.ErrMatch, most/2 + 1: api.ErrLimit} {
		v := many(most, a)
		v.L[at] = b
		holdCount(t, "a symbol that is not in a union, at "+strconv.Itoa(at), from, to, v, 0, want)
	}
	// A record comes ahead of its fields, and they in the reader's order.
	ints := array(`"int"`)
	from = parsed(t, record("r", `{"name":"b","type":`+ints+`},{"name":"a","type":`+ints+`}`))
	rows := []struct {
		fields string
		b, a   int
		want   api.Errno
	}{
		{`{"name":"a","type":` + ints + `},{"name":"c","type":"int"}`, 0, most, api.ErrLimit}, {`{"name":"c","type":"int"},{"name":"a","type":` + ints + `}`, 0, most, api.ErrMatch}, {`{"name":"a","type":` + ints + `},{"name":"c","type":"int"}`, most, most - 1, api.ErrMatch}, {`{"name":"a","type":` + ints + `},{"name":"b","type":"int"}`, 0, most, api.ErrLimit}, {`{"name":"b","type":"int"},{"name":"a","type":` + ints + `}`, 0, most, api.ErrMatch},
		{`{"name":"a","type":` + ints + `},{"name":"c","type":"int","default":1},{"name":"d","type":"int"}`, 0, most - 2, api.ErrMatch}, {`{"name":"a","type":` + ints + `},{"name":"c","type":"int","default":1},{"name":"d","type":"int"}`, 0, most - 1, api.ErrLimit},
	}
	for i, x := range rows {
		three := num(api.Int, 3)
		holdCount(t, "fields, row "+strconv.Itoa(i), from, parsed(t, record("r", x.fields)), list(api.Record, many(x.b, three), many(x.a, three)), 0, x.want)
	}
	from, to = parsed(t, array(record("r", ""))), parsed(t, array(record("r", `{"name":"c","type":"int"}`)))
	holdCount(t, "a record without its field", from, to, many(most, list(api.Record)), 0, api.ErrMatch)
	from, to = parsed(t, array("["+enum("e", `"A"`)+","+record("r", "")+"]")), parsed(t, array("["+enum("e", `"A"`)+","+record("r", `{"name":"c","type":"int"}`)+"]"))
	for ahead, want := range map[int]api.Errno{most/2 - 1: api.ErrMatch, most / 2: api.ErrLimit} {
		v := many(ahead, one(0, a))
		v.L = append(v.L, one(1, list(api.Record)))
		holdCount(t, "a record without its field, behind "+strconv.Itoa(ahead), from, to, v, 0, want)
	}
}

// TestDeep reads values that are nested deeper than calls may be (R1).
func TestDeep(t *testing.T) {
	const deep = 2000000
	union := of(api.Node{Kind: api.Array, Items: 1}, api.Node{Kind: api.Union, Branches: []int{0}})
	round := of(api.Node{Kind: api.Array})
	holdCount(t, "arrays in arrays", round, union, chain(deep), 0, api.ErrLimit)
	holdCount(t, "arrays in arrays", round, union, chain(api.MaxItems/2), api.MaxItems-1, api.OK)
	holdCount(t, "arrays in arrays", round, union, chain(api.MaxItems/2+1), 0, api.ErrLimit)
	null := of(api.Node{Kind: api.Null})
	nested := of(api.Node{Kind: api.Union, Branches: []int{0, 1}}, null.Nodes[0])
	v := one(1, num(api.Null, 0))
	for range deep {
		v = one(0, v)
	}
	holdCount(t, "out of unions in unions", nested, null, v, 1, api.OK)
	holdCount(t, "unions in unions as themselves", nested, nested, v, 0, api.ErrLimit)
	holdCount(t, "unions in unions as an int", nested, of(api.Node{Kind: api.Int}), v, 0, api.ErrMatch)
	s := api.Schema{}
	for i := range 4000 {
		s.Nodes = append(s.Nodes, api.Node{Kind: api.Array, Items: i + 1})
	}
	s.Nodes = append(s.Nodes, null.Nodes[0])
	holdCount(t, "a deep schema", s, s, chain(4000), 4000, api.OK)
}

func TestRead(t *testing.T) {
	rows := []struct {
		w, r, b string
		want    api.Value
		fault   api.Errno
	}{
		{`"int"`, `"long"`, "\x06", num(api.Long, 3), api.OK}, {`"null"`, `"null"`, "", num(api.Null, 0), api.OK}, {`"string"`, `["bytes"]`, "\x02a", one(0, octets(api.Bytes, "a")), api.OK}, {array(`"int"`), array(`"long"`), "\x01\x02\x02\x02\x04\x00", list(api.Array, num(api.Long, 1), num(api.Long, 2)), api.OK},
		{`"long"`, `"int"`, "\x06", api.Value{}, api.ErrMatch}, {`["int","null"]`, `"int"`, "\x02", api.Value{}, api.ErrMatch},
		// What is wrong with the bytes is told first.
		{`"long"`, `"int"`, "", api.Value{}, api.ErrShort}, {`"long"`, `"int"`, "\x80", api.Value{}, api.ErrShort}, {`"long"`, `"int"`, "\x80\x00", api.Value{}, api.ErrForm}, {`"long"`, `"int"`, "\x06\x06", api.Value{}, api.ErrForm}, {`"int"`, `"long"`, "\x06\x06", api.Value{}, api.ErrForm}, {`"boolean"`, `"int"`, "\x02", api.Value{}, api.ErrForm}, {`"string"`, `"int"`, "\x02\xff", api.Value{}, api.ErrForm},
		{`"bytes"`, `"int"`, "\x82\x40" + strings.Repeat("a", 4097), api.Value{}, api.ErrLimit}, {array(`"null"`), `"int"`, "\x9e\x9c\x01\x00", api.Value{}, api.ErrMatch}, {array(`"null"`), `"int"`, "\xa0\x9c\x01\x00", api.Value{}, api.ErrLimit}, {array(`"null"`), array(`["null"]`), "\x9e\x9c\x01\x00", api.Value{}, api.ErrLimit},
		{enum("e", `"A","B"`), enum("e", `"B","A"`), "\x00", num(api.Enum, 1), api.OK}, {enum("e", `"A","B"`), enum("e", `"B","A"`), "\x04", api.Value{}, api.ErrForm},
	}
	for i, x := range rows {
		v, fault := resolve.Read(parsed(t, x.w), parsed(t, x.r), []byte(x.b))
		if fault != x.fault || !same(v, x.want) {
			t.Errorf("P10.2: row %d: %.200s, error %d; want %.200s, error %d", i, shown(v), fault, shown(x.want), x.fault)
		}
	}
	integer, none := parsed(t, `"int"`), api.Schema{}
	fixed := of(api.Node{Kind: api.Fixed, Size: -1})
	odd := []struct {
		w, r  api.Schema
		b     string
		fault api.Errno
	}{
		{none, integer, "\x06", api.ErrType}, {integer, none, "\x06", api.ErrType}, {integer, none, "", api.ErrShort}, {integer, none, "\x06\x06", api.ErrForm}, {none, none, "", api.ErrType}, {of(api.Node{Kind: 15}), integer, "", api.ErrType},
		{fixed, fixed, "", api.ErrType}, {fixed, integer, "\x06", api.ErrForm}, // taken out of no bytes, but it does not fit
		{integer, of(api.Node{Kind: 15}), "\x06", api.ErrMatch},
	}
	for i, x := range odd {
		if v, fault := resolve.Read(x.w, x.r, []byte(x.b)); fault != x.fault || !same(v, api.Value{}) {
			t.Errorf("P10.2: odd row %d: %s, error %d; want error %d", i, shown(v), fault, x.fault)
		}
	}
	if v, fault := resolve.Read(parsed(t, `"null"`), parsed(t, `"null"`), nil); fault != api.OK || v.Kind != api.Null {
		t.Errorf("P10.2: no bytes: %s, error %d", shown(v), fault)
	}
}

// everything is schemas, and a value, that have some of all that is written anew.
func everything(t *testing.T) (w, r api.Schema, v api.Value) {
	shared := `{"name":"a","type":` + array(`"bytes"`) + `}`
	w = parsed(t, record("r", shared+`,{"name":"m","type":`+dict(`["string"]`)+`},{"name":"e","type":`+enum("e", `"A"`)+`}`))
	def := `"type":` + dict(array(`"bytes"`)) + `,"default":{"k":["d"]}}`
	r = parsed(t, record("r", shared+`,{"name":"b","aliases":["a"],"type":[`+array(`"bytes"`)+`]},{"name":"m","type":`+dict(`"bytes"`)+`},{"name":"m2","aliases":["m"],"type":`+dict(`["null","string"]`)+`},{"name":"d",`+def+`,{"name":"l","type":`+array(record("q", `{"name":"d",`+def))+`,"default":[{},{}]},{"name":"e","type":`+enum("e", `"B","A"`)+`}`))
	bytes := make([]byte, 3, 10)
	copy(bytes, "abc")
	items := append(make([]api.Value, 0, 10), api.Value{Kind: api.Bytes, B: bytes}, octets(api.Bytes, "x"))
	keys := append(make([]string, 0, 10), "k", "l")
	m := api.Value{Kind: api.Map, Keys: keys, L: []api.Value{one(0, octets(api.String, "y")), one(0, octets(api.String, "z"))}}
	return w, r, list(api.Record, api.Value{Kind: api.Array, L: items}, m, num(api.Enum, 0))
}

// scribble writes over all of v, and over the room behind its lists' ends.
func scribble(v *api.Value) {
	for i := range v.L {
		scribble(&v.L[i])
	}
	for i := range v.B[:cap(v.B)] {
		v.B[:cap(v.B)][i] = '#'
	}
	for i := range v.Keys[:cap(v.Keys)] {
		v.Keys[:cap(v.Keys)][i] = "#"
	}
	for i := range v.L[:cap(v.L)] {
		v.L[:cap(v.L)][i] = api.Value{Kind: 99}
	}
}

// TestMemory (R3): what is handed in is not changed, and what is told is new memory, each list of it by itself.
func TestMemory(t *testing.T) {
	w, r, v := everything(t)
	w2, r2, v2 := everything(t)
	want, fault := resolve.Value(w, r, v)
	if fault != api.OK {
		t.Fatalf("P10.1: error %d", fault)
	}
	if !reflect.DeepEqual([]any{w, r, v}, []any{w2, r2, v2}) {
		t.Error("R3: what was handed in is changed")
	}
	got, _ := resolve.Value(w, r, v)
	scribble(&got)
	if !reflect.DeepEqual([]any{w, r, v}, []any{w2, r2, v2}) {
		t.Error("R3: who writes into an answer changes what was handed in")
	}
	again, _ := resolve.Value(w, r, v)
	if !same(again, want) {
		t.Error("R3: who writes into an answer changes a later one")
	}
	for i := range again.L {
		x, _ := resolve.Value(w, r, v)
		scribble(&x.L[i])
		for k := range x.L {
			if k != i && !same(x.L[k], want.L[k]) {
				t.Errorf("R3: the fields %d and %d of an answer share memory", i, k)
			}
		}
	}
	x, _ := resolve.Value(w, r, v)
	if scribble(&x.L[5].L[0]); !same(x.L[5].L[1], want.L[5].L[1]) {
		t.Error("R3: records of a default share memory")
	}
	if scribble(&v); !same(again, want) {
		t.Error("R3: an answer shares memory with what was handed in")
	}
	b, _ := codec.Encode(w, v2)
	b = append(b, 9, 9)[:len(b)]
	read, fault := resolve.Read(w, r, b)
	if clear(b[:cap(b)]); fault != api.OK || !same(read, want) {
		t.Errorf("P10.2, R3: Read: error %d, or memory of the bytes", fault)
	}
}

// TestDefaultsShare: a default that comes more than once is new memory each time.
func TestDefaultsShare(t *testing.T) {
	w, r := parsed(t, array(record("r", ""))), parsed(t, array(record("r", `{"name":"d","type":`+dict(array(`"bytes"`))+`,"default":{"k":["d"]}}`)))
	v, fault := resolve.Value(w, r, many(2, list(api.Record)))
	if fault != api.OK || len(v.L) != 2 {
		t.Fatalf("P10.1: error %d", fault)
	}
	want := list(api.Record, keyed("k", list(api.Array, octets(api.Bytes, "d"))))
	if scribble(&v.L[0]); !same(v.L[1], want) {
		t.Errorf("R3: a default that comes twice shares memory: %s", shown(v.L[1]))
	}
}
