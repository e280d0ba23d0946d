package codec_test

import (
	"math"
	"slices"
	"strconv"
	"strings"
	"testing"

	"courant/api"
	"courant/code"
	"courant/codec"
	"courant/value"
)

const lowest = nineFull + "\x01" // Zig of -2^63

// zigs are the bytes of some numbers.
func zigs(n ...int64) string {
	out := ""
	for _, x := range n {
		out += string(code.Zig(x))
	}
	return out
}

// takes holds what Take and Decode answer of b, and of b with more behind, against v.
func takes(t *testing.T, promise string, s api.Schema, b string, v api.Value) {
	t.Helper()
	for _, more := range []string{"", "\x00", "\xff\xff"} {
		got, size, fault := codec.Take(s, []byte(b+more))
		if fault != api.OK || size != len(b) || !same(got, v) {
			t.Errorf("%s: Take of %.60x with %x behind: %v, %d bytes, error %d; want %v", promise, b, more, got, size, fault, v)
		}
	}
	if got, fault := codec.Decode(s, []byte(b)); fault != api.OK || !same(got, v) {
		t.Errorf("%s: Decode of %.60x: %v, error %d; want %v", promise, b, got, fault, v)
	}
	if got, fault := codec.Decode(s, []byte(b+"\x00")); fault != api.ErrForm || !same(got, api.Value{}) {
		t.Errorf("%s: Decode of %.60x, a byte more: %v, error %d; want %d", promise, b, got, fault, api.ErrForm)
	}
}

// refuses holds what Take and Decode answer of b against an error, and all else against zero (R4).
func refuses(t *testing.T, s api.Schema, b string, want api.Errno) {
	t.Helper()
	if v, size, fault := codec.Take(s, []byte(b)); fault != want || size != 0 || !same(v, api.Value{}) {
		t.Errorf("P8.2: Take of %.60x: %v, %d bytes, error %d; want %d", b, v, size, fault, want)
	}
	if v, fault := codec.Decode(s, []byte(b)); fault != want || !same(v, api.Value{}) {
		t.Errorf("P8.2: Decode of %.60x: %v, error %d; want %d", b, v, fault, want)
	}
}

func TestTake(t *testing.T) {
	for _, r := range rows() {
		takes(t, "What follows", r.s, r.b, r.v)
		for k := range r.b {
			refuses(t, r.s, r.b[:k], api.ErrShort)
		}
	}
}

func TestTakeSingleWrong(t *testing.T) {
	rows := []struct {
		s    api.Schema
		b    string
		want api.Errno
	}{
		{of(api.Boolean), "\x02", api.ErrForm}, {of(api.Boolean), "\x80", api.ErrForm}, {of(api.Boolean), "\xff\x00", api.ErrForm},
		{of(api.Int), zigs(math.MaxInt32 + 1), api.ErrForm}, {of(api.Int), zigs(math.MinInt32 - 1), api.ErrForm}, {of(api.Int), lowest, api.ErrForm}, {of(api.Int), zigs(1 << 32), api.ErrForm},
		{of(api.Int), "\x80\x00", api.ErrForm}, {of(api.Int), "\x80", api.ErrShort}, {of(api.Long), "\x80\x00", api.ErrForm}, {of(api.Long), nineFull + "\x02", api.ErrForm}, {of(api.Long), nineFull, api.ErrShort}, {of(api.Long), nineFull + "\xff\xff", api.ErrForm},
		{enum("X", "Y"), zigs(2), api.ErrForm}, {enum("X", "Y"), zigs(-1), api.ErrForm}, {enum("X", "Y"), zigs(1 << 32), api.ErrForm}, {enum(), zigs(0), api.ErrForm}, {enum("X"), "\x81", api.ErrShort}, {enum(), "", api.ErrShort}, {enum("X"), "\x81\x00", api.ErrForm},
		{within(api.Union, api.Null), zigs(1), api.ErrForm}, {within(api.Union, api.Null), zigs(-1), api.ErrForm}, {within(api.Union, api.Null), lowest, api.ErrForm}, {of(api.Union), zigs(0), api.ErrForm}, {of(api.Union), "", api.ErrShort}, {within(api.Union, api.Int), "\x00", api.ErrShort},
		{of(api.Float), "abc", api.ErrShort}, {of(api.Double), "abcdefg", api.ErrShort}, {fixed(2), "a", api.ErrShort}, {fixed(math.MaxInt), "a", api.ErrShort},
	}
	for _, kind := range []int{api.Bytes, api.String} {
		for b, want := range map[string]api.Errno{zigs(-1) + "a": api.ErrForm, lowest: api.ErrForm, zigs(math.MaxInt64): api.ErrLimit, zigs(api.MaxRecord + 1): api.ErrLimit, zigs(api.MaxRecord): api.ErrShort, zigs(2) + "a": api.ErrShort, "\x80": api.ErrShort, "\x80\x00": api.ErrForm} {
			refuses(t, of(kind), b, want)
			refuses(t, record(api.Null, kind), b, want)
		}
		refuses(t, of(kind), zigs(api.MaxRecord+1)+strings.Repeat("a", api.MaxRecord+1), api.ErrLimit)
	}
	for _, r := range rows {
		refuses(t, r.s, r.b, r.want)
	}
	for _, text := range []string{"\xff", "a\xc3", "\xed\xa0\x80", "\xc0\x80", strings.Repeat("a", api.MaxRecord-1) + "\x80"} {
		refuses(t, of(api.String), zigs(int64(len(text)))+text, api.ErrForm)
		refuses(t, within(api.Map, api.Null), zigs(1, int64(len(text)))+text+zigs(0), api.ErrForm)
		takes(t, "P8.2", of(api.Bytes), zigs(int64(len(text)))+text, octets(api.Bytes, text))
	}
}

// TestTakeLong: MaxRecord bounds a text, but neither what has texts within it, nor a Fixed.
func TestTakeLong(t *testing.T) {
	text := strings.Repeat("a", api.MaxRecord)
	b := zigs(api.MaxRecord) + text
	takes(t, "P8.2", of(api.Bytes), b, octets(api.Bytes, text))
	takes(t, "P8.2", of(api.String), b, octets(api.String, text))
	v := list(api.Array, octets(api.Bytes, text), octets(api.Bytes, text))
	takes(t, "P8.2", within(api.Array, api.Bytes), zigs(2)+b+b+zigs(0), v)
	if _, fault := codec.Encode(within(api.Array, api.Bytes), v); fault != api.ErrLimit {
		t.Errorf("P8.1: what may be decoded, but is too long: error %d", fault)
	}
	takes(t, "P8.2", within(api.Map, api.Null), zigs(1)+b+zigs(0), pairs([]string{text}, null()))
	refuses(t, within(api.Map, api.Null), zigs(1, api.MaxRecord+1)+text+"a"+zigs(0), api.ErrLimit)
	takes(t, "P8.2", fixed(5*api.MaxRecord), strings.Repeat(text, 5), octets(api.Fixed, strings.Repeat(text, 5)))
	takes(t, "P8.2", fixed(-1), "", octets(api.Fixed, ""))
}

func TestTakeBlocks(t *testing.T) {
	longs, nulls, texts := within(api.Array, api.Long), within(api.Array, api.Null), within(api.Array, api.String)
	three := list(api.Array, long(1), long(-1), long(64))
	for _, b := range []string{
		zigs(3, 1, -1, 64, 0), zigs(1, 1, 1, -1, 1, 64, 0), zigs(2, 1, -1, 1, 64, 0), zigs(1, 1, 2, -1, 64, 0),
		zigs(-3, 4, 1, -1, 64, 0), zigs(-1, 1, 1, -2, 3, -1, 64, 0), zigs(-2, 2, 1, -1, 1, 64, 0), zigs(1, 1, -2, 3, -1, 64, 0),
	} {
		takes(t, "P8.2", longs, b, three)
	}
	takes(t, "P8.2", nulls, zigs(-3, 0, 2, -1, 0, 0), list(api.Array, slices.Repeat([]api.Value{null()}, 6)...))
	takes(t, "P8.2", texts, zigs(-2, 4, 1)+"a"+zigs(1)+"b"+zigs(0), list(api.Array, octets(api.String, "a"), octets(api.String, "b")))
	inner := node(api.Node{Kind: api.Array, Items: 1}, api.Node{Kind: api.Array, Items: 2}, api.Node{Kind: api.Long})
	takes(t, "P8.2", inner, zigs(-2, 7, -1, 1, 5, 0, 1, 6, 0, 0), list(api.Array, list(api.Array, long(5)), list(api.Array, long(6))))
	ints := within(api.Map, api.Int)
	two := pairs([]string{"b", "a"}, leaf(api.Int, 1), leaf(api.Int, 2))
	b, a := zigs(1)+"b"+zigs(1), zigs(1)+"a"+zigs(2)
	for _, x := range []string{zigs(2) + b + a + zigs(0), zigs(1) + b + zigs(1) + a + zigs(0), zigs(-2, 6) + b + a + zigs(0), zigs(-1, 3) + b + zigs(-1, 3) + a + zigs(0), zigs(1) + b + zigs(-1, 3) + a + zigs(0)} {
		takes(t, "P8.2", ints, x, two)
	}
}

func TestTakeBlocksWrong(t *testing.T) {
	longs, nulls, ints := within(api.Array, api.Long), within(api.Array, api.Null), within(api.Map, api.Int)
	rows := []struct {
		s    api.Schema
		b    string
		want api.Errno
	}{
		{longs, "", api.ErrShort}, {longs, "\x80", api.ErrShort}, {longs, "\x80\x00", api.ErrForm}, {longs, zigs(1), api.ErrShort}, {longs, zigs(1, 5), api.ErrShort}, {longs, zigs(2, 5), api.ErrShort}, {longs, zigs(math.MaxInt64), api.ErrShort},
		{longs, zigs(-1), api.ErrShort}, {longs, zigs(-1) + "\x80", api.ErrShort}, {longs, zigs(-1) + "\x80\x00", api.ErrForm}, {longs, zigs(-1, 1), api.ErrShort}, {longs, zigs(-1, 1, 5), api.ErrShort},
		{longs, zigs(-1, 0, 5, 0), api.ErrForm}, {longs, zigs(-1, 2, 5, 0), api.ErrForm}, {longs, zigs(-1, 2, 5, 0, 0), api.ErrForm}, {longs, zigs(-1, 1, 64, 0), api.ErrForm}, {longs, zigs(-2, 1, 5, 5, 0), api.ErrForm}, {longs, zigs(-2, 3, 5, 5, 0), api.ErrForm}, {longs, zigs(-1, math.MaxInt64, 5, 0), api.ErrForm},
		{longs, zigs(-1, 1<<32+1, 5, 0), api.ErrForm}, {longs, zigs(-1, -1, 5, 0), api.ErrForm}, {longs, zigs(-1, -1), api.ErrForm}, {longs, zigs(-1) + lowest, api.ErrForm}, {nulls, zigs(-1, -1, 0), api.ErrForm}, {nulls, zigs(-1, 1, 0), api.ErrForm}, {nulls, zigs(-1, 1), api.ErrForm},
		{longs, lowest + zigs(1), api.ErrForm}, {longs, lowest + zigs(-1), api.ErrForm}, {nulls, lowest + zigs(0, 0), api.ErrForm}, {longs, lowest, api.ErrShort},
		{nulls, zigs(math.MaxInt64), api.ErrLimit}, {nulls, zigs(-math.MaxInt64, 0), api.ErrLimit}, {nulls, zigs(-math.MaxInt64, 9), api.ErrLimit},
		{longs, zigs(1, 5, -1, 9, 5, 0), api.ErrForm}, {longs, zigs(-1, 1, 5, -1, 2, 5, 0), api.ErrForm},
		{ints, zigs(1), api.ErrShort}, {ints, zigs(1, 1), api.ErrShort}, {ints, zigs(1, 1) + "a", api.ErrShort}, {ints, zigs(1, 1) + "a" + zigs(1), api.ErrShort}, {ints, zigs(1, -1) + "a" + zigs(1, 0), api.ErrForm}, {ints, zigs(-1, 2, 1) + "a" + zigs(1, 0), api.ErrForm}, {ints, zigs(-1, 4, 1) + "a" + zigs(1, 0), api.ErrForm},
	}
	for _, r := range rows {
		refuses(t, r.s, r.b, r.want)
	}
}

func TestTakeKeyTwice(t *testing.T) {
	ints := within(api.Map, api.Int)
	a := zigs(1) + "a" + zigs(7)
	for _, b := range []string{zigs(2) + a + a + zigs(0), zigs(1) + a + zigs(1) + a + zigs(0), zigs(-1, 3) + a + zigs(-1, 3) + a + zigs(0), zigs(3) + a + zigs(0, 7) + a + zigs(0), zigs(2, 0, 1, 0, 1, 0), zigs(2) + a + a, zigs(3) + a + a, zigs(-2, 99) + a + a} {
		refuses(t, ints, b, api.ErrForm)
	}
	// It is told behind the value, of which the errors are told ahead.
	refuses(t, ints, zigs(2)+a+zigs(1)+"a", api.ErrShort)
	refuses(t, node(api.Node{Kind: api.Map, Items: 1}, api.Node{Kind: api.Bytes}), zigs(2, 1)+"a"+zigs(0, 1)+"a"+zigs(api.MaxRecord+1), api.ErrLimit)
	// A key is asked within its own map alone.
	maps := node(api.Node{Kind: api.Map, Items: 1}, api.Node{Kind: api.Map, Items: 2}, api.Node{Kind: api.Int})
	one := pairs([]string{"a"}, leaf(api.Int, 7))
	inner := zigs(1) + a + zigs(0)
	takes(t, "P8.2", maps, zigs(2, 1)+"a"+inner+zigs(1)+"b"+inner+zigs(0), pairs([]string{"a", "b"}, one, one))
}

func TestTakeDepth(t *testing.T) {
	down := strings.Repeat(zigs(1), api.MaxDepth-1)
	up := strings.Repeat(zigs(0), api.MaxDepth)
	takes(t, "P8.2", itself(), down+up, nested(api.MaxDepth))
	refuses(t, itself(), down+zigs(1), api.ErrLimit)
	refuses(t, itself(), down+zigs(1)+up+zigs(0), api.ErrLimit)
	refuses(t, itself(), down+zigs(-1), api.ErrShort)
	refuses(t, itself(), down+zigs(-1, -1), api.ErrForm)
	refuses(t, itself(), down+zigs(-1, 0), api.ErrLimit)
	refuses(t, itself(), strings.Repeat(zigs(1), 1000000), api.ErrLimit)
	refuses(t, node(api.Node{Kind: api.Record, Fields: []api.Field{{Type: 0}}}), "", api.ErrLimit)
	unions := node(api.Node{Kind: api.Union, Branches: []int{0, 1}}, api.Node{Kind: api.Null})
	v := null()
	for at := range api.MaxDepth - 1 {
		v = union(int64(min(1, max(0, 1-at))), v)
	}
	takes(t, "P8.2", unions, zigs(slices.Repeat([]int64{0}, api.MaxDepth-2)...)+zigs(1), v)
	refuses(t, unions, zigs(slices.Repeat([]int64{0}, api.MaxDepth-1)...)+zigs(1), api.ErrLimit)
	refuses(t, unions, zigs(slices.Repeat([]int64{0}, api.MaxDepth-1)...)+zigs(2), api.ErrForm)
	refuses(t, unions, zigs(slices.Repeat([]int64{0}, api.MaxDepth-1)...), api.ErrShort)
	refuses(t, unions, zigs(slices.Repeat([]int64{0}, api.MaxDepth)...), api.ErrLimit)
	maps := node(api.Node{Kind: api.Map})
	level := zigs(1, 0)
	refuses(t, maps, strings.Repeat(level, api.MaxDepth), api.ErrLimit)
	refuses(t, maps, strings.Repeat(level, api.MaxDepth-1)+zigs(1), api.ErrShort) // the key is taken ahead of the value
	refuses(t, maps, strings.Repeat(level, api.MaxDepth-1)+zigs(1, 1)+"\xff", api.ErrForm)
}

func TestTakeItems(t *testing.T) {
	nulls := within(api.Array, api.Null)
	full := list(api.Array, slices.Repeat([]api.Value{null()}, api.MaxItems-1)...)
	takes(t, "P8.2", nulls, zigs(api.MaxItems-1, 0), full)
	takes(t, "P8.2", nulls, zigs(-5000, 0, 4999, 0), full)
	refuses(t, nulls, zigs(api.MaxItems, 0), api.ErrLimit)
	refuses(t, nulls, zigs(-5000, 0, 5000, 0), api.ErrLimit)
	refuses(t, nulls, zigs(-api.MaxItems, 1, 0), api.ErrLimit)
	refuses(t, nulls, zigs(1-api.MaxItems, 1, 0), api.ErrForm)
	refuses(t, nulls, zigs(api.MaxItems-1, 1, 0), api.ErrLimit)
	refuses(t, nulls, zigs(api.MaxItems-1), api.ErrShort)
	// What is counted is ahead of what it is: its bytes are not asked.
	longs := within(api.Array, api.Long)
	refuses(t, longs, zigs(api.MaxItems)+strings.Repeat("\x00", api.MaxItems-1), api.ErrLimit)
	refuses(t, longs, zigs(api.MaxItems)+strings.Repeat("\x00", api.MaxItems-2), api.ErrShort)
	empty := within(api.Array, api.Record)
	refuses(t, empty, zigs(api.MaxItems, 0), api.ErrLimit)
	unions := node(api.Node{Kind: api.Array, Items: 1}, api.Node{Kind: api.Union, Branches: []int{2}}, api.Node{Kind: api.Null})
	refuses(t, unions, zigs(5000)+strings.Repeat("\x00", 5001), api.ErrLimit)
	if v, fault := codec.Decode(unions, []byte(zigs(4999)+strings.Repeat("\x00", 5000))); fault != api.OK || value.Count(v) != api.MaxItems-1 {
		t.Errorf("P8.2: 4999 unions: error %d", fault)
	}
	keys := zigs(api.MaxItems - 1)
	for i := range api.MaxItems - 1 {
		keys += string(code.Text([]byte(strconv.Itoa(i))))
	}
	maps := within(api.Map, api.Null)
	if v, fault := codec.Decode(maps, []byte(keys+zigs(0))); fault != api.OK || len(v.Keys) != api.MaxItems-1 || v.Keys[9998] != "9998" {
		t.Errorf("P8.2: a map of as many as may be: error %d", fault)
	}
	refuses(t, maps, keys+zigs(1), api.ErrShort) // the key is taken ahead of the value
	refuses(t, maps, keys+zigs(1, 1)+"\xff", api.ErrForm)
	refuses(t, maps, keys+zigs(1, 1)+"0", api.ErrLimit)
	// Records that double are refused as soon as there are too many.
	s := api.Schema{}
	for i := range 60 {
		s.Nodes = append(s.Nodes, api.Node{Kind: api.Record, Fields: []api.Field{{Type: i + 1}, {Type: i + 1}}})
	}
	s.Nodes = append(s.Nodes, api.Node{Kind: api.Null})
	refuses(t, s, "", api.ErrLimit)
}

func TestTakeNoType(t *testing.T) {
	for _, s := range []api.Schema{{}, of(0), of(-1), of(15), of(math.MaxInt), of(math.MinInt)} {
		for _, b := range []string{"", "\x00", "\x80", "\xff\x00"} {
			refuses(t, s, b, api.ErrType)
		}
	}
	for _, at := range []int{-1, 1, math.MaxInt, math.MinInt} {
		array, dict, either, whole := node(api.Node{Kind: api.Array, Items: at}), node(api.Node{Kind: api.Map, Items: at}), node(api.Node{Kind: api.Union, Branches: []int{at}}), node(api.Node{Kind: api.Record, Fields: []api.Field{{Type: at}}})
		refuses(t, whole, "", api.ErrType)
		refuses(t, either, zigs(0), api.ErrType)
		refuses(t, either, zigs(1), api.ErrForm)
		refuses(t, either, "", api.ErrShort)
		takes(t, "P8.2", array, zigs(0), list(api.Array)) // a place that is not asked
		refuses(t, array, zigs(1), api.ErrType)
		refuses(t, array, zigs(math.MaxInt64), api.ErrType)
		refuses(t, array, zigs(-1), api.ErrShort)
		refuses(t, array, zigs(-1, -1), api.ErrForm)
		refuses(t, array, zigs(-1, 0), api.ErrType)
		takes(t, "P8.2", dict, zigs(0), pairs(nil))
		refuses(t, dict, zigs(1), api.ErrShort)
		refuses(t, dict, zigs(1, 1)+"\xff", api.ErrForm)
		refuses(t, dict, zigs(1, 0), api.ErrType)
	}
	// A place that is not there counts no value, so it is never too much; a kind that there is not does.
	for last, want := range map[int]api.Errno{3: api.ErrLimit, 4: api.ErrType} {
		s := node(api.Node{Kind: api.Record, Fields: []api.Field{{Type: 1}, {Type: last}}}, api.Node{Kind: api.Array, Items: 2}, api.Node{Kind: api.Null}, api.Node{Kind: 15})
		refuses(t, s, zigs(api.MaxItems-2, 0), want)
		refuses(t, s, zigs(api.MaxItems-3, 0), api.ErrType)
		refuses(t, s, zigs(api.MaxItems-1, 0), api.ErrLimit)
		refuses(t, s, zigs(api.MaxItems-2), api.ErrShort)
		deep := node(api.Node{Kind: api.Union, Branches: []int{0, last}}, api.Node{}, api.Node{}, api.Node{Kind: 15})
		refuses(t, deep, zigs(slices.Repeat([]int64{0}, api.MaxDepth-1)...)+zigs(1), want)
		refuses(t, deep, zigs(slices.Repeat([]int64{0}, api.MaxDepth-2)...)+zigs(1), api.ErrType)
	}
}

// TestTakeOwn: R3: what is told is new memory, no two lists of it are one, and what is given stays.
func TestTakeOwn(t *testing.T) {
	s := node(api.Node{Kind: api.Record, Fields: []api.Field{{Type: 1}, {Type: 1}, {Type: 3}}}, api.Node{Kind: api.Map, Items: 2}, api.Node{Kind: api.Bytes}, api.Node{Kind: api.Array, Items: 1})
	one := pairs([]string{"k", "l"}, octets(api.Bytes, "xy"), octets(api.Bytes, ""))
	want := list(api.Record, one, one, list(api.Array, one, one))
	b, fault := codec.Encode(s, want)
	if fault != api.OK {
		t.Fatal("P8.1: the record is not encoded")
	}
	room := append(slices.Clone(b), "the room behind"...)
	v, size, fault := codec.Take(s, room[:len(b)])
	if fault != api.OK || size != len(b) || !same(v, want) {
		t.Fatalf("P8.2: %v, error %d", v, fault)
	}
	spoil(v.L[0])
	spoil(v.L[2].L[0])
	if !same(v.L[1], one) || !same(v.L[2].L[1], one) {
		t.Errorf("R3: two lists of %v share memory", v)
	}
	if string(room) != string(b)+"the room behind" {
		t.Errorf("R3: what was given is now %q", room)
	}
	again, _ := codec.Decode(s, room[:len(b)])
	for i := range room {
		room[i] = '#'
	}
	if !same(again, want) {
		t.Errorf("R3: what was told is now %v", again)
	}
	if v, _ := codec.Decode(s, b); !same(v, want) {
		t.Errorf("R2: what is told hangs on an answer of before: %v", v)
	}
}
