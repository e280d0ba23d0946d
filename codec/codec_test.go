package codec_test

import (
	"bytes"
	"math"
	"slices"
	"strings"
	"testing"

	"courant/api"
	"courant/codec"
	"courant/value"
)

func leaf(kind int, n int64) api.Value        { return api.Value{Kind: kind, N: n} }
func octets(kind int, s string) api.Value     { return api.Value{Kind: kind, B: []byte(s)} }
func list(kind int, l ...api.Value) api.Value { return api.Value{Kind: kind, L: l} }
func null() api.Value                         { return leaf(api.Null, 0) }
func long(n int64) api.Value                  { return leaf(api.Long, n) }
func union(n int64, l ...api.Value) api.Value {
	return api.Value{Kind: api.Union, N: n, L: l}
}
func pairs(keys []string, l ...api.Value) api.Value {
	return api.Value{Kind: api.Map, Keys: keys, L: l}
}

// same is R9's: all fields, and the elements of lists one by one.
func same(a, b api.Value) bool {
	return a.Kind == b.Kind && a.N == b.N && bytes.Equal(a.B, b.B) && slices.Equal(a.Keys, b.Keys) && slices.EqualFunc(a.L, b.L, same)
}

// spoil writes over all lists of v, and over the room behind their ends.
func spoil(v api.Value) {
	for _, x := range v.L {
		spoil(x)
	}
	octets, list, keys := v.B[:cap(v.B)], v.L[:cap(v.L)], v.Keys[:cap(v.Keys)]
	for i := range octets {
		octets[i] = '#'
	}
	for i := range list {
		list[i] = leaf(99, 99)
	}
	for i := range keys {
		keys[i] = "#"
	}
}

// node is a schema of that node, and of others behind it.
func node(n ...api.Node) api.Schema { return api.Schema{Nodes: n} }

// of is a schema of one node of that kind, without anything else.
func of(kind int) api.Schema { return node(api.Node{Kind: kind}) }

// within is an array, a map or a union (of the one branch) of what has that kind.
func within(kind, inner int) api.Schema {
	return node(api.Node{Kind: kind, Items: 1, Branches: []int{1}}, api.Node{Kind: inner})
}

// itself is an array of its own kind.
func itself() api.Schema { return node(api.Node{Kind: api.Array}) }

// nested is so many arrays, each within the one ahead.
func nested(n int) api.Value {
	v := list(api.Array)
	for range n - 1 {
		v = list(api.Array, v)
	}
	return v
}

func enum(symbols ...string) api.Schema { return node(api.Node{Kind: api.Enum, Symbols: symbols}) }
func fixed(size int) api.Schema         { return node(api.Node{Kind: api.Fixed, Size: size}) }

func record(kinds ...int) api.Schema {
	s := of(api.Record)
	for i, kind := range kinds {
		s.Nodes[0].Fields = append(s.Nodes[0].Fields, api.Field{Name: string(rune('a' + i)), Type: i + 1})
		s.Nodes = append(s.Nodes, api.Node{Kind: kind})
	}
	return s
}

// either is a union of null, of an array of itself, and of a string.
func either() api.Schema {
	return node(api.Node{Kind: api.Union, Branches: []int{1, 2, 3}}, api.Node{Kind: api.Null}, api.Node{Kind: api.Array, Items: 0}, api.Node{Kind: api.String})
}

type row struct {
	s api.Schema
	v api.Value
	b string
}

const nineFull = "\xff\xff\xff\xff\xff\xff\xff\xff\xff"

// rows are values with their bytes.
func rows() []row {
	many := strings.Repeat("z", 300)
	return []row{
		{of(api.Null), null(), ""},
		{of(api.Boolean), leaf(api.Boolean, 0), "\x00"}, {of(api.Boolean), leaf(api.Boolean, 1), "\x01"},
		{of(api.Int), leaf(api.Int, 0), "\x00"}, {of(api.Int), leaf(api.Int, -1), "\x01"}, {of(api.Int), leaf(api.Int, 300), "\xd8\x04"},
		{of(api.Int), leaf(api.Int, math.MaxInt32), "\xfe\xff\xff\xff\x0f"}, {of(api.Int), leaf(api.Int, math.MinInt32), "\xff\xff\xff\xff\x0f"},
		{of(api.Long), long(0), "\x00"}, {of(api.Long), long(-64), "\x7f"}, {of(api.Long), long(64), "\x80\x01"},
		{of(api.Long), long(math.MaxInt64), "\xfe" + nineFull[1:] + "\x01"}, {of(api.Long), long(math.MinInt64), nineFull + "\x01"},
		{of(api.Float), octets(api.Float, "\x00\x01\xfe\xff"), "\x00\x01\xfe\xff"}, {of(api.Double), octets(api.Double, "12345678"), "12345678"},
		{of(api.Bytes), octets(api.Bytes, ""), "\x00"}, {of(api.Bytes), octets(api.Bytes, "\xff\x00"), "\x04\xff\x00"}, {of(api.Bytes), octets(api.Bytes, many), "\xd8\x04" + many},
		{of(api.String), octets(api.String, ""), "\x00"}, {of(api.String), octets(api.String, "a\x00\u00e9\U0001f600"), "\x10a\x00\xc3\xa9\xf0\x9f\x98\x80"}, {of(api.String), octets(api.String, many), "\xd8\x04" + many},
		{fixed(0), octets(api.Fixed, ""), ""}, {fixed(3), octets(api.Fixed, "\xff\x00a"), "\xff\x00a"}, {fixed(300), octets(api.Fixed, many), many},
		{enum("X"), leaf(api.Enum, 0), "\x00"}, {enum("X", "Y", "Y"), leaf(api.Enum, 2), "\x04"},
		{of(api.Record), list(api.Record), ""}, {record(api.Null, api.Null), list(api.Record, null(), null()), ""},
		{record(api.Int, api.String, api.Boolean), list(api.Record, leaf(api.Int, 2), octets(api.String, "z"), leaf(api.Boolean, 1)), "\x04\x02z\x01"},
		{within(api.Union, api.Long), union(0, long(-2)), "\x00\x03"}, {either(), union(0, null()), "\x00"}, {either(), union(2, octets(api.String, "z")), "\x04\x02z"},
		{either(), union(1, list(api.Array)), "\x02\x00"}, {either(), union(1, list(api.Array, union(1, list(api.Array, union(0, null()))), union(2, octets(api.String, "")))), "\x02\x04\x02\x02\x00\x00\x04\x00\x00"},
		{within(api.Array, api.Long), list(api.Array), "\x00"}, {within(api.Array, api.Long), list(api.Array, long(1), long(2)), "\x04\x02\x04\x00"},
		{within(api.Array, api.Null), list(api.Array, null(), null(), null()), "\x06\x00"}, {within(api.Array, api.Null), list(api.Array, slices.Repeat([]api.Value{null()}, 300)...), "\xd8\x04\x00"},
		{itself(), nested(3), "\x02\x02\x00\x00\x00"}, {within(api.Array, api.Record), list(api.Array, list(api.Record)), "\x02\x00"},
		{within(api.Map, api.Int), pairs(nil), "\x00"}, {within(api.Map, api.Int), pairs([]string{"k"}, leaf(api.Int, 3)), "\x02\x02k\x06\x00"},
		{within(api.Map, api.Int), pairs([]string{"b", "", "a\u00e9"}, leaf(api.Int, 3), leaf(api.Int, 0), leaf(api.Int, -1)), "\x06\x02b\x06\x00\x00\x06a\u00e9\x01\x00"},
		{within(api.Map, api.Null), pairs([]string{"a", many}, null(), null()), "\x04\x02a\xd8\x04" + many + "\x00"},
	}
}

func TestEncode(t *testing.T) {
	for i, r := range rows() {
		if b, fault := codec.Encode(r.s, r.v); fault != api.OK || string(b) != r.b {
			t.Errorf("P8.1: the row %d: %x, error %d; want %x", i, b, fault, r.b)
		}
	}
}

func TestEncodeType(t *testing.T) {
	deep, many, much := null(), list(api.Array, slices.Repeat([]api.Value{null()}, api.MaxItems)...), octets(api.Bytes, strings.Repeat("a", api.MaxRecord))
	for range api.MaxDepth {
		deep = list(api.Array, deep)
	}
	wrong := []row{
		{s: api.Schema{}, v: null()}, {s: api.Schema{}}, {s: of(api.Null)}, {s: of(0)}, {s: of(15), v: leaf(15, 0)}, {s: of(-1), v: leaf(-1, 0)},
		{s: of(api.Null), v: leaf(api.Null, 1)}, {s: of(api.Boolean), v: leaf(api.Boolean, 2)}, {s: of(api.Int), v: long(1)}, {s: of(api.Int), v: leaf(api.Int, math.MaxInt32+1)},
		{s: of(api.Float), v: octets(api.Float, "abc")}, {s: of(api.Double), v: octets(api.Double, "abcd")}, {s: of(api.String), v: octets(api.String, "\xff")}, {s: of(api.String), v: octets(api.Bytes, "a")},
		{s: fixed(2), v: octets(api.Fixed, "a")}, {s: fixed(-1), v: octets(api.Fixed, "")}, {s: enum("X"), v: leaf(api.Enum, 1)}, {s: enum(), v: leaf(api.Enum, 0)},
		{s: record(api.Int), v: list(api.Record)}, {s: record(api.Int), v: list(api.Record, long(1))}, {s: within(api.Union, api.Int), v: union(1, leaf(api.Int, 1))}, {s: within(api.Union, api.Int), v: union(0)},
		{s: within(api.Array, api.Int), v: list(api.Array, null())}, {s: within(api.Map, api.Int), v: pairs([]string{"a", "a"}, leaf(api.Int, 1), leaf(api.Int, 1))}, {s: within(api.Map, api.Int), v: pairs([]string{"\xff"}, leaf(api.Int, 1))}, {s: within(api.Map, api.Int), v: pairs([]string{"a"})},
		{s: node(api.Node{Kind: api.Array, Items: 1}), v: list(api.Array, null())}, {s: node(api.Node{Kind: api.Union, Branches: []int{-1}}), v: union(0, null())},
		// What does not fit is told so, be it beyond the limits or not.
		{s: itself(), v: deep}, {s: within(api.Array, api.Int), v: many}, {s: of(api.String), v: much}, {s: record(api.Bytes, api.Int), v: list(api.Record, much, null())},
	}
	for i, r := range wrong {
		if b, fault := codec.Encode(r.s, r.v); fault != api.ErrType || len(b) > 0 {
			t.Errorf("P8.1: the wrong row %d: %x, error %d; want %d", i, b, fault, api.ErrType)
		}
	}
	if b, fault := codec.Encode(node(api.Node{Kind: api.Array, Items: 9}), list(api.Array)); fault != api.OK || string(b) != "\x00" {
		t.Errorf("P8.1: a place that is not asked: %x, error %d", b, fault)
	}
}

// TestEncodeLimits: what is as deep, as much, as long as may be, and what is one more.
func TestEncodeLimits(t *testing.T) {
	items := func(n int, v api.Value) api.Value { return list(api.Array, slices.Repeat([]api.Value{v}, n)...) }
	text := func(kind, n int) api.Value { return octets(kind, strings.Repeat("a", n)) }
	key := func(n int) api.Value { return pairs([]string{strings.Repeat("k", n)}, null()) }
	huge := octets(api.Bytes, strings.Repeat("a", 1<<24))
	limits := []struct {
		s    api.Schema
		v    api.Value
		size int // 0: ErrLimit
	}{
		{itself(), nested(api.MaxDepth), 2*api.MaxDepth - 1}, {itself(), nested(api.MaxDepth + 1), 0}, {itself(), nested(1000000), 0},
		{within(api.Array, api.Null), items(api.MaxItems-1, null()), 4}, {within(api.Array, api.Null), items(api.MaxItems, null()), 0}, {within(api.Array, api.Null), items(300000, null()), 0},
		{of(api.String), text(api.String, api.MaxRecord-2), api.MaxRecord}, {of(api.String), text(api.String, api.MaxRecord-1), 0}, {of(api.Bytes), text(api.Bytes, api.MaxRecord-2), api.MaxRecord}, {of(api.Bytes), text(api.Bytes, api.MaxRecord-1), 0}, {of(api.Bytes), huge, 0},
		{fixed(api.MaxRecord), text(api.Fixed, api.MaxRecord), api.MaxRecord}, {fixed(api.MaxRecord + 1), text(api.Fixed, api.MaxRecord+1), 0},
		{within(api.Array, api.Boolean), items(api.MaxRecord-3, leaf(api.Boolean, 1)), api.MaxRecord}, {within(api.Array, api.Boolean), items(api.MaxRecord-2, leaf(api.Boolean, 1)), 0}, {within(api.Array, api.Double), items(512, octets(api.Double, "12345678")), 0},
		{within(api.Map, api.Null), key(api.MaxRecord - 4), api.MaxRecord}, {within(api.Map, api.Null), key(api.MaxRecord - 3), 0}, {within(api.Map, api.Null), key(1 << 20), 0},
		{record(api.Bytes, api.Int), list(api.Record, text(api.Bytes, api.MaxRecord-3), leaf(api.Int, 1)), api.MaxRecord}, {record(api.Bytes, api.Int), list(api.Record, text(api.Bytes, api.MaxRecord-3), leaf(api.Int, 64)), 0}, {record(api.Bytes, api.Null), list(api.Record, text(api.Bytes, api.MaxRecord-2), null()), api.MaxRecord},
		{within(api.Array, api.Bytes), items(api.MaxItems-1, huge), 0},
	}
	for i, x := range limits {
		b, fault := codec.Encode(x.s, x.v)
		if x.size == 0 && (fault != api.ErrLimit || len(b) > 0) {
			t.Errorf("P8.1: beyond the limits, the row %d: %d bytes, error %d", i, len(b), fault)
		}
		if x.size > 0 && (fault != api.OK || len(b) != x.size) {
			t.Errorf("P8.1: within the limits, the row %d: %d bytes, error %d; want %d", i, len(b), fault, x.size)
		}
		if again, e := codec.Decode(x.s, b); fault == api.OK && (e != api.OK || !same(again, x.v)) {
			t.Errorf("What follows: within the limits, the row %d is decoded with error %d", i, e)
		}
	}
}

// TestEncodeOwn: R3: what is encoded is new memory, and what was given stays, with the room behind it.
func TestEncodeOwn(t *testing.T) {
	for i, r := range rows() {
		b, _ := codec.Encode(r.s, r.v)
		for k := range b[:cap(b)] {
			b[:cap(b)][k] = '#'
		}
		if again := rows()[i].v; !same(r.v, again) {
			t.Errorf("R3: what was given is now %v; was %v", r.v, again)
		}
		if b, _ := codec.Encode(r.s, r.v); string(b) != r.b {
			t.Errorf("R3: what is told hangs on an answer of before: %x; want %x", b, r.b)
		}
	}
	room := []byte("abcd and the room behind")
	v := api.Value{Kind: api.Float, B: room[:4]}
	b, _ := codec.Encode(of(api.Float), v)
	_ = append(b, "##"...)
	if string(room) != "abcd and the room behind" {
		t.Errorf("R3: what was given is now %q", room)
	}
	room[0] = '#'
	if string(b) != "abcd" {
		t.Errorf("R3: what was told is now %q", b)
	}
}

// TestEncodeDepthOfUnions: a union is a depth of its own, beside what is within it.
func TestEncodeDepthOfUnions(t *testing.T) {
	chain := func(n int) api.Value { // each is a union and an array within it
		v := union(0, null())
		for range n {
			v = union(1, list(api.Array, v))
		}
		return v
	}
	for n := 29; n < 34; n++ {
		v := chain(n)
		want := api.OK
		if value.Depth(v) > api.MaxDepth {
			want = api.ErrLimit
		}
		if _, fault := codec.Encode(either(), v); fault != want || want == api.OK != (n < 32) {
			t.Errorf("P8.1: %d unions and arrays: error %d; want %d", n, fault, want)
		}
	}
}
