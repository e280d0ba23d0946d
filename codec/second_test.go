package codec_test

import (
	"math/rand"
	"slices"
	"strconv"
	"testing"
	"unicode/utf8"

	"courant/api"
	"courant/codec"
	"courant/value"
)

// second takes values as the chapter's words say it, in their order; it panics with the error.
type second struct {
	s     api.Schema
	b     []byte
	at    int
	count int
}

func must(is bool, fault api.Errno) {
	if !is {
		panic(fault)
	}
}

func (x *second) zig() int64 {
	sum, rest := uint64(0), x.b[x.at:]
	for i := 0; ; i++ {
		must(i < len(rest), api.ErrShort)
		must(i < 9 || rest[i] <= 1, api.ErrForm)
		sum |= uint64(rest[i]%128) << (7 * i)
		if rest[i] < 128 {
			must(i == 0 || rest[i] > 0, api.ErrForm)
			x.at += i + 1
			return int64(sum>>1) ^ -int64(sum&1)
		}
	}
}

func (x *second) raw(n int) []byte {
	must(max(n, 0) <= len(x.b)-x.at, api.ErrShort)
	x.at += max(n, 0)
	return x.b[x.at-max(n, 0) : x.at]
}

func (x *second) text() []byte {
	n := x.zig()
	must(n >= 0, api.ErrForm)
	must(n <= api.MaxRecord, api.ErrLimit)
	return x.raw(int(n))
}

func (x *second) place(size int) int64 {
	n := x.zig()
	must(n >= 0 && n < int64(size), api.ErrForm)
	return n
}

func (x *second) value(node, depth int) api.Value {
	must(node >= 0 && node < len(x.s.Nodes), api.ErrType)
	must(depth <= api.MaxDepth, api.ErrLimit)
	x.count++
	must(x.count <= api.MaxItems, api.ErrLimit)
	n := x.s.Nodes[node]
	must(n.Kind >= api.Null && n.Kind <= api.Fixed, api.ErrType)
	v := api.Value{Kind: n.Kind}
	switch n.Kind {
	case api.Boolean:
		v.N = int64(x.raw(1)[0])
		must(v.N <= 1, api.ErrForm)
	case api.Int:
		v.N = x.zig()
		must(v.N == int64(int32(v.N)), api.ErrForm)
	case api.Long:
		v.N = x.zig()
	case api.Float:
		v.B = x.raw(4)
	case api.Double:
		v.B = x.raw(8)
	case api.Fixed:
		v.B = x.raw(n.Size)
	case api.Bytes:
		v.B = x.text()
	case api.String:
		v.B = x.text()
		must(utf8.Valid(v.B), api.ErrForm)
	case api.Enum:
		v.N = x.place(len(n.Symbols))
	case api.Union:
		v.N = x.place(len(n.Branches))
		v.L = []api.Value{x.value(n.Branches[v.N], depth+1)}
	case api.Record:
		for _, f := range n.Fields {
			v.L = append(v.L, x.value(f.Type, depth+1))
		}
	case api.Array, api.Map:
		x.blocks(&v, n.Items, depth)
	}
	return v
}

func (x *second) blocks(v *api.Value, items, depth int) {
	for n := x.zig(); n != 0; n = x.zig() {
		size, told := int64(0), n < 0
		if told {
			size = x.zig()
			must(size >= 0 && n != -1<<63, api.ErrForm)
			n = -n
		}
		from := x.at
		for ; n > 0; n-- {
			if v.Kind == api.Map {
				key := x.text()
				must(utf8.Valid(key), api.ErrForm)
				v.L = append(v.L, x.value(items, depth+1))
				must(!slices.Contains(v.Keys, string(key)), api.ErrForm)
				v.Keys = append(v.Keys, string(key))
			} else {
				v.L = append(v.L, x.value(items, depth+1))
			}
		}
		must(!told || int64(x.at-from) == size, api.ErrForm)
	}
}

// taken is Take, in the second form.
func taken(s api.Schema, b []byte) (v api.Value, size int, fault api.Errno) {
	defer func() {
		if e := recover(); e != nil {
			v, size, fault = api.Value{}, 0, e.(api.Errno)
		}
	}()
	x := &second{s: s, b: b}
	v = x.value(0, 1)
	return v, x.at, api.OK
}

// hold holds Take and Decode against the second form. It tells the error.
func hold(t *testing.T, s api.Schema, b []byte) api.Errno {
	t.Helper()
	want, wantSize, wantFault := taken(s, b)
	v, size, fault := codec.Take(s, b)
	if fault != wantFault || size != wantSize || !same(v, want) {
		t.Fatalf("P8.2: Take(%+v, %x): %v, %d bytes, error %d; want %v, %d, %d", s, b, v, size, fault, want, wantSize, wantFault)
	}
	if wantFault == api.OK && wantSize < len(b) {
		want, wantFault = api.Value{}, api.ErrForm
	}
	if v, fault := codec.Decode(s, b); fault != wantFault || !same(v, want) {
		t.Fatalf("P8.2: Decode(%+v, %x): %v, error %d; want %v, %d", s, b, v, fault, want, wantFault)
	}
	if fault == api.OK {
		again(t, s, v)
	}
	return fault
}

// again holds what was taken against itself, encoded and decoded.
func again(t *testing.T, s api.Schema, v api.Value) {
	t.Helper()
	if !value.Fits(s, 0, v) {
		for _, n := range s.Nodes {
			if n.Kind == api.Fixed && n.Size < 0 { // of which nothing fits
				return
			}
		}
		t.Fatalf("What follows: %v does not fit %+v", v, s)
	}
	b, fault := codec.Encode(s, v)
	if fault == api.ErrLimit {
		return
	}
	w, more := codec.Decode(s, b)
	if fault != api.OK || more != api.OK || !same(v, w) {
		t.Fatalf("What follows: %v, encoded again: errors %d, %d, %v", v, fault, more, w)
	}
}

// chance makes schemas, values that fit them, and bytes that may be theirs.
type chance struct{ *rand.Rand }

func (c chance) schema() api.Schema {
	size := 1 + c.Intn(8)
	s := api.Schema{Nodes: make([]api.Node, size)}
	for i := range s.Nodes {
		place := func() int {
			switch c.Intn(12) {
			case 0:
				return c.Intn(size)
			case 1:
				return c.Intn(size+2) - 1
			}
			return min(i+1+c.Intn(3), size-1)
		}
		n := api.Node{Kind: 1 + c.Intn(14)}
		if c.Intn(40) == 0 {
			n.Kind = []int{0, 15, -1}[c.Intn(3)]
		}
		if i == size-1 && c.Intn(8) > 0 {
			n.Kind = 1 + c.Intn(8)
		}
		switch n.Kind {
		case api.Record:
			for range c.Intn(4) {
				n.Fields = append(n.Fields, api.Field{Type: place()})
			}
		case api.Enum:
			n.Symbols = []string{"X", "Y", "Z"}[:c.Intn(4)]
		case api.Union:
			for range c.Intn(4) {
				n.Branches = append(n.Branches, place())
			}
		}
		n.Items, n.Size = place(), c.Intn(5)-c.Intn(2)*c.Intn(2)
		s.Nodes[i] = n
	}
	return s
}

func (c chance) number() int64 {
	return []int64{0, 1, 2, -1, 64, 1<<31 - 1, -1 << 31, c.Int63()}[c.Intn(8)]
}

// value is one that fits the node, if it comes to an end; unless it does, it is of no use.
func (c chance) value(s api.Schema, at, depth int) (v api.Value, is bool) {
	if at < 0 || at >= len(s.Nodes) || depth > 12 {
		return v, false
	}
	n := s.Nodes[at]
	if n.Kind < api.Null || n.Kind > api.Fixed {
		return v, false
	}
	v.Kind = n.Kind
	var inner []int
	switch n.Kind {
	case api.Boolean:
		v.N = c.Int63n(2)
	case api.Int:
		v.N = int64(int32(c.number()))
	case api.Long:
		v.N = c.number()
	case api.Enum:
		if len(n.Symbols) == 0 {
			return v, false
		}
		v.N = c.Int63n(int64(len(n.Symbols)))
	case api.Float, api.Double, api.Fixed:
		v.B = make([]byte, max(0, map[int]int{api.Float: 4, api.Double: 8, api.Fixed: n.Size}[n.Kind]))
		c.Read(v.B)
	case api.Bytes, api.String:
		v.B = []byte([]string{"", "a", "\u00e9", "abc\x00"}[c.Intn(4)])
	case api.Record:
		for _, f := range n.Fields {
			inner = append(inner, f.Type)
		}
	case api.Array, api.Map:
		inner = slices.Repeat([]int{n.Items}, c.Intn(4))
	case api.Union:
		if len(n.Branches) == 0 {
			return v, false
		}
		v.N = c.Int63n(int64(len(n.Branches)))
		inner = []int{n.Branches[v.N]}
	}
	for i, at := range inner {
		x, is := c.value(s, at, depth+1)
		if !is {
			return v, false
		}
		v.L = append(v.L, x)
		if n.Kind == api.Map {
			v.Keys = append(v.Keys, []string{"", "k", "\u00e9"}[c.Intn(3)]+strconv.Itoa(i))
		}
	}
	return v, true
}

// bytes are those of v, its blocks being parted by chance, and told with their bytes or without.
func (c chance) bytes(v api.Value) []byte {
	var out []byte
	add := func(more ...string) {
		for _, x := range more {
			out = append(out, x...)
		}
	}
	text := func(b string) string { return zigs(int64(len(b))) + b }
	switch v.Kind {
	case api.Boolean:
		add(string([]byte{byte(v.N)}))
	case api.Int, api.Long, api.Enum:
		add(zigs(v.N))
	case api.Float, api.Double, api.Fixed:
		add(string(v.B))
	case api.Bytes, api.String:
		add(text(string(v.B)))
	case api.Union:
		add(zigs(v.N), string(c.bytes(v.L[0])))
	case api.Record:
		for _, x := range v.L {
			add(string(c.bytes(x)))
		}
	case api.Array, api.Map:
		for at := 0; at < len(v.L); {
			n := 1 + c.Intn(len(v.L)-at)
			block := ""
			for i := at; i < at+n; i++ {
				if v.Kind == api.Map {
					block += text(v.Keys[i])
				}
				block += string(c.bytes(v.L[i]))
			}
			if c.Intn(2) == 0 {
				add(zigs(int64(n)), block)
			} else {
				add(zigs(-int64(n), int64(len(block))), block)
			}
			at += n
		}
		add(zigs(0))
	}
	return out
}

// turn turns, drops or puts in some bytes.
func (c chance) turn(b []byte) []byte {
	b = slices.Clone(b)
	for range 1 + c.Intn(2) {
		at := c.Intn(len(b) + 1)
		piece := []string{"\x00", "\x01", "\x02", "\x03", "\x04", "\x7f", "\x80", "\xff", "\x80\x00", lowest, zigs(-1, 0), zigs(-2, 1), zigs(4097), string([]byte{byte(c.Intn(256))})}[c.Intn(14)]
		switch c.Intn(4) {
		case 0:
			b = b[:at]
		case 1:
			b = slices.Insert(b, at, []byte(piece)...)
		case 2:
			b = slices.Delete(b, at, min(at+1, len(b)))
		case 3:
			b = slices.Replace(b, at, min(at+1, len(b)), []byte(piece)...)
		}
	}
	return b
}

func TestByChance(t *testing.T) {
	c := chance{rand.New(rand.NewSource(8))}
	told := map[api.Errno]int{}
	values := 0
	for range 30000 {
		s := c.schema()
		b := make([]byte, c.Intn(12))
		c.Read(b)
		told[hold(t, s, b)]++
		for range 3 {
			v, is := c.value(s, 0, 1)
			if !is {
				continue
			}
			b := c.bytes(v)
			if got, size, fault := codec.Take(s, b); fault != api.OK || size != len(b) || !same(got, v) {
				t.Fatalf("P8.2: Take(%+v, %x): %v, %d bytes, error %d; want %v", s, b, got, size, fault, v)
			}
			if value.Fits(s, 0, v) {
				values++
				again(t, s, v)
			}
			for range 6 {
				told[hold(t, s, c.turn(b))]++
			}
		}
	}
	for _, fault := range []api.Errno{api.OK, api.ErrShort, api.ErrForm, api.ErrLimit, api.ErrType} {
		if told[fault] < 300 {
			t.Errorf("the error %d was told but %d times: chance has to be asked otherwise", fault, told[fault])
		}
	}
	if values < 10000 {
		t.Errorf("but %d values fit", values)
	}
}

func FuzzTake(f *testing.F) {
	f.Add(int64(1), []byte("\x02\x00"))
	f.Fuzz(func(t *testing.T, seed int64, b []byte) {
		hold(t, chance{rand.New(rand.NewSource(seed))}.schema(), b)
	})
}
