package check_test

import (
	"math/rand"
	"slices"
	"strconv"
	"strings"
	"testing"

	"courant/api"
	"courant/canon"
	"courant/check"
	"courant/live"
	"courant/match"
	"courant/resolve"
	"courant/schema"
	"courant/value"
)

// second is the chapter's words once more, in another form. wrong is the pairs that do not hold.
type second struct {
	w, r  api.Schema
	lives []bool
	wrong map[[2]int]bool
}

func (x *second) lead(i, k int) (local bool, leads [][2]int) {
	from := x.w.Nodes[i]
	if k < 0 || k >= len(x.r.Nodes) {
		return false, nil
	}
	to := x.r.Nodes[k]
	if from.Kind == api.Union {
		for _, b := range from.Branches {
			leads = append(leads, [2]int{b, k})
		}
		return true, leads
	}
	if to.Kind == api.Union {
		for _, b := range to.Branches {
			if match.Types(x.w, i, x.r, b) {
				return true, [][2]int{{i, b}}
			}
		}
		return false, nil
	}
	if !match.Types(x.w, i, x.r, k) {
		return false, nil
	}
	local = true
	switch from.Kind {
	case api.Enum:
		known := map[string]bool{}
		for _, symbol := range to.Symbols {
			known[symbol] = true
		}
		for _, symbol := range from.Symbols {
			local = local && (known[symbol] || to.Has)
		}
	case api.Array, api.Map:
		leads = [][2]int{{from.Items, to.Items}}
	case api.Record:
		for _, f := range to.Fields {
			if at := match.Field(from, f); at >= 0 {
				leads = append(leads, [2]int{from.Fields[at].Type, f.Type})
			} else {
				local = local && f.Has
			}
		}
	}
	return local, leads
}

func (x *second) live(i int) bool { return i >= 0 && i < len(x.lives) && x.lives[i] }

// newSecond goes through all pairs again and again, striking out those that do not hold, until nothing changes.
func newSecond(w, r api.Schema) *second {
	x := &second{w, r, live.Nodes(w), map[[2]int]bool{}}
	for changed := true; changed; {
		changed = false
		for i := range w.Nodes {
			for k := -1; k <= len(r.Nodes); k++ {
				if at := [2]int{i, k}; x.live(i) && !x.wrong[at] {
					holds, leads := x.lead(i, k)
					for _, next := range leads {
						// All places that are not there are as one.
						next[1] = max(-1, min(next[1], len(r.Nodes)))
						holds = holds && !x.wrong[next]
					}
					if !holds {
						x.wrong[at], changed = true, true
					}
				}
			}
		}
	}
	return x
}

func (x *second) reads() bool {
	return len(x.w.Nodes) > 0 && len(x.r.Nodes) > 0 && !x.wrong[[2]int{0, 0}]
}

// pairs are those that are asked; it calls itself.
func (x *second) pairs(at [2]int, told *[][2]int) {
	if !x.live(at[0]) || slices.Contains(*told, at) {
		return
	}
	*told = append(*told, at)
	_, leads := x.lead(at[0], at[1])
	for _, next := range leads {
		x.pairs(next, told)
	}
}

// hold holds Reads and Pairs against the second form.
func hold(t *testing.T, w, r api.Schema) (is bool, pairs int) {
	t.Helper()
	x := newSecond(w, r)
	if is = check.Reads(w, r); is != x.reads() {
		t.Fatalf("P12.1: Reads of %+v and %+v: %v", w, r, is)
	}
	var want [][2]int
	if len(r.Nodes) > 0 {
		x.pairs([2]int{0, 0}, &want)
	}
	if got := listed(check.Pairs(w, r)); !slices.Equal(got, want) {
		t.Fatalf("P12.1: Pairs of %+v and %+v: %v; want %v", w, r, got, want)
	}
	return is, len(want)
}

// against is a value of the node i that is not read as k, if the pair does not hold; asked are the pairs that others look into.
func (x *second) against(i, k int, asked map[[2]int]bool) (v api.Value, is bool) {
	if !x.live(i) || asked[[2]int{i, k}] {
		return v, false
	}
	asked[[2]int{i, k}] = true
	local, leads := x.lead(i, k)
	from, to := x.w.Nodes[i], x.r.Nodes[k]
	v, _ = live.Least(x.w, i)
	if !local {
		for at, symbol := range from.Symbols {
			if !slices.Contains(to.Symbols, symbol) {
				v.N = int64(at)
			}
		}
		return v, true
	}
	var sources []int // of a record: the field that each pair comes of
	for _, f := range to.Fields {
		if at := match.Field(from, f); at >= 0 {
			sources = append(sources, at)
		}
	}
	for n, next := range leads {
		y, is := x.against(next[0], next[1], asked)
		switch {
		case !is:
			continue
		case from.Kind == api.Union:
			v.N, v.L = int64(n), []api.Value{y}
		case to.Kind == api.Union:
			return y, true
		case from.Kind == api.Record:
			v.L[sources[n]] = y
		default:
			v.L = []api.Value{y}
			if from.Kind == api.Map {
				v.Keys = []string{"k"}
			}
		}
		return v, true
	}
	return v, false
}

// maker makes texts of types. shape says what they are, turn where they are otherwise: two of one shape, unlike in their turns, are much alike.
type maker struct {
	shape, turn *rand.Rand
	rate        int // one of so many is turned; 0: none
	names       []string
}

func (m *maker) turned() bool { return m.rate > 0 && m.turn.Intn(m.rate) == 0 }

// text is a type's.
func (m *maker) text(depth int) string {
	out := m.plain(depth)
	if !m.turned() {
		return out
	}
	switch m.turn.Intn(9) {
	case 0:
		return `"null"`
	case 1:
		return `["null",` + out + `]`
	case 2:
		return `[` + out + `,"null"]`
	case 3:
		return `["int","string",` + out + `]`
	}
	return strings.NewReplacer(`"int"`, `"long"`, `"string"`, `"bytes"`).Replace(out)
}

func (m *maker) plain(depth int) string {
	kind := m.shape.Intn(14)
	if depth > 5 {
		kind = 12
	}
	switch {
	case kind < 2 && len(m.names) > 0:
		name := `"` + m.names[m.shape.Intn(len(m.names))] + `"`
		if m.shape.Intn(6) > 0 { // so that most of those that lead back have a value
			return union(`"null"`, name)
		}
		return name
	case kind < 6 && len(m.names) < 12:
		return m.record(depth)
	case kind == 6:
		return array(m.text(depth + 1))
	case kind == 7:
		return table(m.text(depth + 1))
	case kind == 8 || kind == 9:
		return m.choice(depth)
	case kind == 10:
		return m.enum()
	case kind == 11:
		size := m.shape.Intn(3)
		if m.turned() {
			size++
		}
		return fixed(m.name(), strconv.Itoa(size))
	}
	return []string{`"int"`, `"int"`, `"string"`, `"string"`, `"null"`, `"boolean"`, `"long"`, `"bytes"`, `"double"`}[m.shape.Intn(9)]
}

// name is a new one; one that is turned may be known by its aliases.
func (m *maker) name() string {
	at := "n" + strconv.Itoa(len(m.names))
	name := at
	if m.turned() {
		name = []string{"m." + at, "x" + at, "x" + at}[m.turn.Intn(3)]
	}
	m.names = append(m.names, name)
	if name != at && m.turn.Intn(4) > 0 {
		return name + "|m.b|." + at
	}
	return name
}

func (m *maker) enum() string {
	symbols := []string{"A", "B", "C"}[:1+m.shape.Intn(3)]
	if m.turned() {
		symbols = append([]string{"D"}, symbols[m.turn.Intn(2):]...)
	}
	text := strings.Join(symbols, " ")
	if m.turned() {
		text += "=" + symbols[m.turn.Intn(len(symbols))]
	}
	return enum(m.name(), text)
}

func (m *maker) choice(depth int) string {
	var types []string
	if m.shape.Intn(2) == 0 {
		types = append(types, `"null"`)
	}
	for range 1 + m.shape.Intn(3) {
		types = append(types, m.text(depth+1))
	}
	if m.turned() {
		m.turn.Shuffle(len(types), func(i, k int) { types[i], types[k] = types[k], types[i] })
	}
	return union(types...)
}

func (m *maker) record(depth int) string {
	name := m.name()
	var fields []string
	many := m.shape.Intn(4)
	if depth == 1 {
		many = 2 + m.shape.Intn(4)
	}
	for i := range many {
		at := "f" + strconv.Itoa(i)
		head, kind := at, m.text(depth+1)
		if m.turned() {
			head = "y" + at + "|z|" + at
		}
		if m.turned() {
			kind += preset(kind)
		}
		if !m.turned() || m.turn.Intn(2) == 0 {
			fields = append(fields, head+":"+kind)
		}
	}
	if m.turned() {
		fields = append(fields, "more|f0:"+[]string{`"int"=1`, `["null","n0"]=null`, `"int"`}[m.turn.Intn(3)])
	}
	if m.turned() {
		m.turn.Shuffle(len(fields), func(i, k int) { fields[i], fields[k] = fields[k], fields[i] })
	}
	return record(name, fields...)
}

// preset is a default of a type of that text, if it is an easy one.
func preset(kind string) string {
	for text, preset := range map[string]string{`"int"`: "1", `"string"`: `"s"`, `"null"`: "null", `["null",`: "null", `["int",`: "7", `{"type":"array"`: "[]", `{"type":"map"`: "{}"} {
		if strings.HasPrefix(kind, text) {
			return "=" + preset
		}
	}
	return ""
}

// alike is two right schemas, much alike.
func alike(c *rand.Rand) (w, r api.Schema) {
	for {
		seed, faults := c.Int63(), api.OK
		make := func(rate int) api.Schema {
			m := &maker{rand.New(rand.NewSource(seed)), c, rate, nil}
			s, fault := schema.Parse(m.record(1))
			if fault != api.OK || !canon.Right(s) {
				faults = api.ErrType
			}
			return s
		}
		if w, r = make([]int{0, 0, 20}[c.Intn(3)]), make([]int{8, 15, 40}[c.Intn(3)]); faults == api.OK {
			return w, r
		}
	}
}

// some is a value of that node, if it comes to an end.
func some(c *rand.Rand, s api.Schema, at, depth int) (v api.Value, is bool) {
	n := s.Nodes[at]
	v = api.Value{Kind: n.Kind, B: make([]byte, map[int]int{api.Float: 4, api.Double: 8, api.Fixed: n.Size}[n.Kind])}
	var inner []int
	switch n.Kind {
	case api.Boolean, api.Int, api.Long:
		v.N = c.Int63n(2)
	case api.Enum:
		v.N = c.Int63n(int64(len(n.Symbols)))
	case api.Record:
		for _, f := range n.Fields {
			inner = append(inner, f.Type)
		}
	case api.Array, api.Map:
		for i := range c.Intn(3) {
			inner = append(inner, n.Items)
			if n.Kind == api.Map {
				v.Keys = append(v.Keys, strconv.Itoa(i))
			}
		}
	case api.Union:
		v.N = c.Int63n(int64(len(n.Branches)))
		inner = []int{n.Branches[v.N]}
	}
	for _, at := range inner {
		x, is := v, false
		if depth < 12 {
			x, is = some(c, s, at, depth+1)
		}
		if !is {
			return v, false
		}
		v.L = append(v.L, x)
	}
	return v, true
}

// tally is how often what is looked for was there.
type tally struct{ reads, refuses, values, far, dead, deep int }

// holdValues: Reads just if each value is read ('What follows').
func holdValues(t *testing.T, c *rand.Rand, w, r api.Schema, seen *tally) {
	t.Helper()
	is, pairs := hold(t, w, r)
	if !is {
		seen.refuses++
		v, has := newSecond(w, r).against(0, 0, map[[2]int]bool{})
		if value.Depth(v) > 3 {
			seen.deep++
		}
		if _, fault := resolve.Value(w, r, v); !has || fault != api.ErrMatch {
			t.Fatalf("What follows: Reads of %+v and %+v: false, but of %+v resolve tells %d", w, r, v, fault)
		}
		return
	}
	if seen.reads++; pairs > 8 {
		seen.far++
	}
	if !live.Nodes(w)[0] {
		seen.dead++
	}
	for range 6 {
		v, has := some(c, w, 0, 1)
		if !has {
			continue
		}
		seen.values++
		if _, fault := resolve.Value(w, r, v); fault != api.OK && fault != api.ErrLimit {
			t.Fatalf("What follows: Reads of %+v and %+v: true, but of %+v resolve tells %d", w, r, v, fault)
		}
	}
}

// odd is a schema of so many nodes, that say anything.
func odd(c *rand.Rand, size int) (s api.Schema) {
	place := func() int {
		if c.Intn(9) > 0 {
			return c.Intn(size)
		}
		return c.Intn(size+4) - 2
	}
	word := func(words ...string) string { return words[c.Intn(len(words))] }
	for range size {
		kinds := []int{api.Record, api.Record, api.Union, api.Union, api.Array, api.Map, api.Null, c.Intn(18) - 1}
		n := api.Node{Kind: kinds[c.Intn(len(kinds))], Name: word("a", "a", "n.a", "b"), Size: c.Intn(4) / 3, Items: place(), Has: c.Intn(4) == 0, Symbols: []string{"A"}, Default: "A"}
		if c.Intn(4) == 0 {
			n.Aliases, n.Symbols = []string{"a"}, []string{"B", "A", "B"}
		}
		for i := range c.Intn(4) {
			n.Branches = append(n.Branches, place())
			n.Fields = append(n.Fields, api.Field{Name: []string{"x", "y", "z"}[i], Type: place(), Has: c.Intn(2) == 0, Aliases: []string{word("x", "y", "v")}})
		}
		s.Nodes = append(s.Nodes, n)
	}
	return s
}

// odds is two that say anything; the second one has some nodes of the first one's.
func odds(c *rand.Rand) (w, r api.Schema) {
	size := c.Intn(9)
	w, r = odd(c, size), odd(c, []int{size, c.Intn(9)}[c.Intn(2)])
	for i := range min(len(w.Nodes), len(r.Nodes)) {
		if c.Intn(4) > 0 {
			r.Nodes[i] = w.Nodes[i]
		}
	}
	return w, r
}

func TestByChance(t *testing.T) {
	c, seen := rand.New(rand.NewSource(12)), tally{}
	for range 10000 {
		w, r := alike(c)
		holdValues(t, c, w, r, &seen)
		holdValues(t, c, r, w, &seen)
	}
	if seen.reads < 9000 || seen.refuses < 6000 || seen.values < 40000 || seen.far < 4000 || seen.dead < 1000 || seen.deep < 3000 {
		t.Errorf("too few of what is looked for: %+v", seen)
	}
	t.Logf("%+v", seen)
}

func TestOddByChance(t *testing.T) {
	c, reads, refuses := rand.New(rand.NewSource(120)), 0, 0
	for range 100000 {
		w, r := odds(c)
		switch is, pairs := hold(t, w, r); {
		case pairs < 4:
		case is:
			reads++
		default:
			refuses++
		}
	}
	if reads < 2000 || refuses < 2000 {
		t.Errorf("too few of what is looked for: %d that read, %d that do not", reads, refuses)
	}
	t.Log(reads, refuses)
}

func FuzzReads(f *testing.F) {
	f.Add(int64(1))
	f.Fuzz(func(t *testing.T, seed int64) {
		c := rand.New(rand.NewSource(seed))
		w, r := alike(c)
		holdValues(t, c, w, r, &tally{})
		w, r = odds(c)
		hold(t, w, r)
	})
}
