package resolve_test

import (
	"math/rand"
	"slices"
	"strconv"
	"strings"
	"testing"

	"courant/api"
	"courant/codec"
	"courant/json"
	"courant/match"
	"courant/resolve"
	"courant/value"
)

// second reads values as the chapter's words say it, in their order, nothing being kept; it panics with the error.
type second struct {
	w, r  api.Schema
	count int
}

func must(is bool, fault api.Errno) {
	if !is {
		panic(fault)
	}
}

func (x *second) come(n int) {
	x.count += n
	must(x.count <= api.MaxItems, api.ErrLimit)
}

func (x *second) value(i, k int, v api.Value) api.Value {
	from := x.w.Nodes[i]
	if from.Kind == api.Union {
		return x.value(from.Branches[v.N], k, v.L[0])
	}
	must(k >= 0 && k < len(x.r.Nodes), api.ErrMatch)
	to := x.r.Nodes[k]
	if to.Kind == api.Union {
		branch := match.Branch(x.w, i, x.r, k)
		must(branch >= 0, api.ErrMatch)
		x.come(1)
		return one(int64(branch), x.value(i, to.Branches[branch], v))
	}
	must(match.Types(x.w, i, x.r, k), api.ErrMatch)
	out := api.Value{Kind: to.Kind}
	switch to.Kind {
	case api.Enum:
		place, is := map[string]int{}, false
		for at, symbol := range slices.Backward(to.Symbols) {
			place[symbol] = at
		}
		at := 0
		if at, is = place[from.Symbols[v.N]]; !is && to.Has {
			at, is = place[to.Default]
		}
		must(is, api.ErrMatch)
		x.come(1)
		out.N = int64(at)
	case api.Array, api.Map:
		x.come(1)
		out.Keys = v.Keys
		for _, y := range v.L {
			out.L = append(out.L, x.value(from.Items, to.Items, y))
		}
	case api.Record:
		x.come(1)
		for _, f := range to.Fields {
			if at := match.Field(from, f); at >= 0 {
				out.L = append(out.L, x.value(from.Fields[at].Type, f.Type, v.L[at]))
			} else {
				out.L = append(out.L, x.preset(f))
			}
		}
	default:
		x.come(1)
		out.N, out.B = v.N, v.B
	}
	return out
}

func (x *second) preset(f api.Field) api.Value {
	j, fault := json.Parse(f.Default)
	must(f.Has && fault == api.OK, api.ErrMatch)
	v, is := value.Default(x.r, f.Type, j)
	must(is, api.ErrMatch)
	x.come(value.Count(v))
	return v
}

// turned is Value, in the second form.
func turned(w, r api.Schema, v api.Value) (out api.Value, fault api.Errno) {
	defer func() {
		if e := recover(); e != nil {
			out, fault = api.Value{}, e.(api.Errno)
		}
	}()
	must(value.Fits(w, 0, v) && len(r.Nodes) > 0, api.ErrType)
	return (&second{w: w, r: r}).value(0, 0, v), api.OK
}

// chance makes schemas, schemas much like them, and values.
type chance struct{ *rand.Rand }

func (c chance) name() string { return []string{"a", "b", "n.a", "n.b", "c"}[c.Intn(5)] }

func (c chance) of(words string, many int) (out []string) {
	all := strings.Fields(words)
	for _, at := range c.Perm(len(all))[:c.Intn(many+1)] {
		out = append(out, all[at])
	}
	return out
}

func (c chance) names() (out []string) {
	if c.Intn(3) == 0 {
		out = append(out, c.name())
	}
	return out
}

func (c chance) preset() string {
	return []string{"null", "1", `"A"`, `"ab"`, "[]", "{}", "[[]]", "[1,2]", `{"k":1}`, `{"x":2}`, "true", `"00000000"`, "x"}[c.Intn(13)]
}

// place is one behind the node i, most often, so that values come to an end.
func (c chance) place(i, size int) int {
	switch c.Intn(25) {
	case 0:
		return c.Intn(size)
	case 1:
		return c.Intn(size+2) - 1
	}
	return min(i+1+c.Intn(3), size-1)
}

// behind is likewise, but not the node itself: few unions are to lead back to themselves, as these take long.
func (c chance) behind(i, size int) int {
	if at := c.place(i, size); at > i || c.Intn(20) == 0 {
		return at
	}
	return size
}

func (c chance) node(i, size int) api.Node {
	n := api.Node{Kind: []int{1 + c.Intn(14), api.Record, api.Union, api.Array, api.Map, api.Enum}[c.Intn(6)]}
	if i >= size-2 {
		n.Kind = []int{1 + c.Intn(8), api.Int, api.String, api.Enum}[c.Intn(4)]
	}
	switch n.Kind {
	case api.Record:
		for _, name := range c.of("x y z", 3) {
			n.Fields = append(n.Fields, api.Field{Name: name, Type: c.place(i, size), Has: c.Intn(2) == 0, Default: c.preset()})
		}
	case api.Enum:
		n.Symbols = append(c.of("A B C", 2), "D")
	case api.Union:
		for range 1 + c.Intn(3) {
			n.Branches = append(n.Branches, c.behind(i, size))
		}
	}
	if n.Kind == api.Record || n.Kind == api.Enum || n.Kind == api.Fixed {
		n.Name, n.Aliases, n.Size = c.name(), c.names(), c.Intn(3)
	}
	if n.Kind == api.Array || n.Kind == api.Map {
		n.Items = c.place(i, size)
	}
	return n
}

func (c chance) schema() (s api.Schema) {
	size := 1 + c.Intn(9)
	for i := range size {
		s.Nodes = append(s.Nodes, c.node(i, size))
	}
	return s
}

// like is a schema that is much like s.
func (c chance) like(s api.Schema) api.Schema {
	out := api.Schema{Nodes: slices.Clone(s.Nodes)}
	for i, n := range out.Nodes {
		n.Fields, n.Branches, n.Symbols = slices.Clone(n.Fields), slices.Clone(n.Branches), slices.Clone(n.Symbols)
		switch c.Intn(6) {
		case 0:
			n = c.turn(n, i, len(s.Nodes))
		case 1: // the node is a branch of a union now, among others
			n = api.Node{Kind: api.Union, Branches: []int{c.behind(i, len(s.Nodes)), len(out.Nodes)}}
			out.Nodes = append(out.Nodes, s.Nodes[i])
		}
		out.Nodes[i] = n
	}
	return out
}

// turn is a node that is much like n.
func (c chance) turn(n api.Node, i, size int) api.Node {
	shuffle := func(l int, swap func(i, k int)) { c.Shuffle(l, swap) }
	switch n.Kind {
	case api.Int:
		n.Kind = api.Long
	case api.String:
		n.Kind = api.Bytes
	case api.Record:
		c.fields(&n, i, size)
		shuffle(len(n.Fields), func(i, k int) { n.Fields[i], n.Fields[k] = n.Fields[k], n.Fields[i] })
	case api.Enum:
		n.Symbols = append(n.Symbols, "E")
		shuffle(len(n.Symbols), func(i, k int) { n.Symbols[i], n.Symbols[k] = n.Symbols[k], n.Symbols[i] })
		n.Symbols = n.Symbols[:1+c.Intn(len(n.Symbols))]
		n.Has, n.Default = c.Intn(2) == 0, []string{"A", "D", "E", n.Symbols[0]}[c.Intn(4)]
	case api.Union:
		n.Branches = append(n.Branches, c.behind(i, size))
		shuffle(len(n.Branches), func(i, k int) { n.Branches[i], n.Branches[k] = n.Branches[k], n.Branches[i] })
		n.Branches = n.Branches[:c.Intn(len(n.Branches)+1)]
	default:
		return c.node(i, size)
	}
	if c.Intn(6) == 0 && n.Name != "" {
		n.Aliases, n.Name = []string{"d", n.Name}, "m.other"
	}
	return n
}

// fields drops some, names some otherwise, puts in some.
func (c chance) fields(n *api.Node, i, size int) {
	for at := range n.Fields {
		f := &n.Fields[at]
		switch c.Intn(4) {
		case 0:
			f.Name, f.Aliases = "other"+strconv.Itoa(at), append(c.of("x y", 1), f.Name)
		case 1:
			f.Aliases = c.of("x y z", 2)
		}
	}
	if len(n.Fields) > 0 && c.Intn(3) == 0 {
		n.Fields = n.Fields[1:]
	}
	if c.Intn(2) == 0 {
		n.Fields = append(n.Fields, api.Field{Name: "more", Type: c.place(i, size), Has: c.Intn(8) > 0, Default: c.preset()})
	}
}

// value is one that fits the node, if it comes to an end; unless it does, it is of no use.
func (c chance) value(s api.Schema, at, depth int) (v api.Value, is bool) {
	if at < 0 || at >= len(s.Nodes) || depth > 12 {
		return v, false
	}
	n := s.Nodes[at]
	v.Kind = n.Kind
	var inner []int
	switch n.Kind {
	case api.Boolean:
		v.N = c.Int63n(2)
	case api.Int, api.Long:
		v.N = int64(int32(c.Uint32()))
	case api.Enum:
		v.N = c.Int63n(int64(len(n.Symbols)))
	case api.Float, api.Double, api.Fixed:
		v.B = make([]byte, map[int]int{api.Float: 4, api.Double: 8, api.Fixed: n.Size}[n.Kind])
		c.Read(v.B)
	case api.Bytes, api.String:
		v.B = []byte([]string{"", "a", "\u00e9"}[c.Intn(3)])
	case api.Record:
		for _, f := range n.Fields {
			inner = append(inner, f.Type)
		}
	case api.Array, api.Map:
		inner = slices.Repeat([]int{n.Items}, c.Intn(4))
	case api.Union:
		v.N = c.Int63n(int64(len(n.Branches)))
		inner = []int{n.Branches[v.N]}
	}
	for i, at := range inner {
		x, is := c.value(s, at, depth+1)
		if !is {
			return v, false
		}
		v.L = append(v.L, x)
		if n.Kind == api.Map {
			v.Keys = append(v.Keys, strconv.Itoa(c.Intn(9))+"."+strconv.Itoa(i))
		}
	}
	return v, true
}

// own tells whether no branch of a union is matched by an earlier one, and none is a union itself.
func own(s api.Schema) bool {
	for k, n := range s.Nodes {
		for at, branch := range n.Branches {
			if branch < 0 || branch >= len(s.Nodes) || s.Nodes[branch].Kind == api.Union || match.Branch(s, branch, s, k) != at {
				return false
			}
		}
	}
	return true
}

// ends tells whether no array and no map leads back to itself.
func ends(s api.Schema) bool {
	for i, n := range s.Nodes {
		if (n.Kind == api.Array || n.Kind == api.Map) && !match.Types(s, i, s, i) {
			return false
		}
	}
	return true
}

// holdSecond holds Value, and Read, against the second form. It tells the error.
func holdSecond(t *testing.T, w, r api.Schema, v api.Value) api.Errno {
	t.Helper()
	want, fault := turned(w, r, v)
	got, e := resolve.Value(w, r, v)
	if e != fault || !same(got, want) {
		t.Fatalf("P10.1: Value(%+v, %+v, %s): %s, error %d; want %s, error %d", w, r, shown(v), shown(got), e, shown(want), fault)
	}
	if e == api.OK && !value.Fits(r, 0, got) {
		t.Fatalf("What follows: Value(%+v, %+v, %s): %s does not fit", w, r, shown(v), shown(got))
	}
	if b, wrong := codec.Encode(w, v); wrong == api.OK {
		if read, e := resolve.Read(w, r, b); e != fault || !same(read, want) {
			t.Fatalf("P10.2: Read(%+v, %+v, %x): %s, error %d; want %s, error %d", w, r, b, shown(read), e, shown(want), fault)
		}
	}
	return e
}

func TestByChance(t *testing.T) {
	c := chance{rand.New(rand.NewSource(10))}
	told, owns, much := map[api.Errno]int{}, 0, 0
	for range 8000 {
		w := c.schema()
		for range 3 {
			v, is := c.value(w, 0, 1)
			if !is || !value.Fits(w, 0, v) {
				continue
			}
			if own(w) && ends(w) {
				owns++
				if x, fault := resolve.Value(w, w, v); fault != api.OK || !same(x, v) {
					t.Fatalf("What follows: %+v by itself: %s, error %d; want %s", w, shown(x), fault, shown(v))
				}
			}
			for range 4 {
				fault := holdSecond(t, w, c.like(w), v)
				if told[fault]++; fault == api.OK && value.Count(v) > 5 {
					much++
				}
			}
			told[holdSecond(t, w, c.schema(), v)]++
			told[holdSecond(t, c.like(w), w, v)]++
		}
	}
	for fault, least := range map[api.Errno]int{api.OK: 50000, api.ErrMatch: 30000, api.ErrType: 5000, api.ErrLimit: 50} {
		if told[fault] < least {
			t.Errorf("the error %d was told but %d times: chance has to be asked otherwise", fault, told[fault])
		}
	}
	if owns < 10000 || much < 3000 {
		t.Errorf("but %d values were read as themselves, and %d had much in them", owns, much)
	}
	t.Log(told, owns, much)
}

func FuzzValue(f *testing.F) {
	f.Add(int64(1))
	f.Fuzz(func(t *testing.T, seed int64) {
		c := chance{rand.New(rand.NewSource(seed))}
		w := c.schema()
		if v, is := c.value(w, 0, 1); is {
			holdSecond(t, w, c.like(w), v)
		}
	})
}
