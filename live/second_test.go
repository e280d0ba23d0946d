package live_test

import (
	"math"
	"math/rand"
	"reflect"
	"strconv"
	"testing"

	"courant/api"
	"courant/canon"
	"courant/live"
	"courant/schema"
	"courant/value"
)

// never is the rank of what is not live, in the second form.
const never = math.MaxInt

// rank is the chapter's words once more: it calls itself, and around are the nodes that it is within, none of which can be what it hangs on.
func rank(s api.Schema, at int, around map[int]bool) int {
	if at < 0 || at >= len(s.Nodes) || around[at] {
		return never
	}
	n, out := s.Nodes[at], 0
	switch {
	case n.Kind < api.Null || n.Kind > api.Fixed:
		return never
	case n.Kind != api.Record && n.Kind != api.Union:
		return 0
	}
	around[at] = true
	defer delete(around, at)
	if n.Kind == api.Record {
		for _, f := range n.Fields {
			out = max(out, rank(s, f.Type, around))
		}
	} else {
		out = never
		for _, b := range n.Branches {
			out = min(out, rank(s, b, around))
		}
	}
	if out == never {
		return never
	}
	return out + 1
}

// least is the value of a live node, in the second form, of however many values.
func least(s api.Schema, at int) api.Value {
	n := s.Nodes[at]
	v := api.Value{Kind: n.Kind, B: make([]byte, map[int]int{api.Float: 4, api.Double: 8, api.Fixed: n.Size}[n.Kind])}
	if n.Kind == api.Record {
		for _, f := range n.Fields {
			v.L = append(v.L, least(s, f.Type))
		}
	}
	if n.Kind == api.Union {
		first := 0
		for i, b := range n.Branches {
			if rank(s, b, map[int]bool{}) < rank(s, n.Branches[first], map[int]bool{}) {
				first = i
			}
		}
		v.N, v.L = int64(first), []api.Value{least(s, n.Branches[first])}
	}
	return v
}

// chance makes schemas, and values.
type chance struct{ *rand.Rand }

func (c chance) pick(words ...string) string { return words[c.Intn(len(words))] }

// text is a type's, which may have the types of those names within it; names of those that are made are added.
func (c chance) text(made *[]string, depth int) string {
	if c.Intn(3) == 0 && len(*made) > 0 {
		return `"` + c.pick(*made...) + `"`
	}
	kind := c.Intn(12)
	if depth > 5 {
		kind = 11
	}
	if kind < 6 && len(*made) < 9 {
		name := "n" + strconv.Itoa(len(*made))
		*made = append(*made, name)
		types := make([]string, c.Intn(4))
		for i := range types {
			types[i] = c.text(made, depth+1)
		}
		return record(name, types...)
	}
	switch kind {
	case 6, 7, 8, 9:
		out := `[` + c.text(made, depth+1)
		for range c.Intn(3) {
			out += `,` + c.text(made, depth+1)
		}
		return out + `]`
	case 10:
		return c.pick(array(c.text(made, depth+1)), table(c.text(made, depth+1)))
	}
	return c.pick(`"null"`, `"boolean"`, `"int"`, `"long"`, `"float"`, `"double"`, `"bytes"`, `"string"`)
}

// right is a schema that is right, with some definitions ahead of all others.
func (c chance) right() api.Schema {
	for {
		made := []string{"e", "f"}
		s, fault := schema.Parse(record("whole", `{"type":"enum","name":"e","symbols":["X","Y"]}`, fixed("f", strconv.Itoa(c.Intn(4))), c.text(&made, 1)))
		if fault == api.OK && canon.Right(s) {
			return s
		}
	}
}

// odd is a schema whose nodes say anything.
func (c chance) odd() (s api.Schema) {
	many := c.Intn(12)
	place := func() int { return c.Intn(many+2) - 1 }
	for range many {
		n := api.Node{Kind: []int{api.Record, api.Record, api.Union, c.Intn(18) - 1}[c.Intn(4)], Size: c.Intn(9) - 1, Items: place()}
		for range []int{0, 1, 1, 2, 2, 3}[c.Intn(6)] {
			n.Fields = append(n.Fields, api.Field{Name: "x", Type: place()})
			n.Branches = append(n.Branches, place())
		}
		s.Nodes = append(s.Nodes, n)
	}
	return s
}

// value is one of that node, if it comes to an end.
func (c chance) value(s api.Schema, at, depth int) (v api.Value, is bool) {
	n := s.Nodes[at]
	v = api.Value{Kind: n.Kind, B: make([]byte, map[int]int{api.Float: 4, api.Double: 8, api.Fixed: n.Size}[n.Kind])}
	var inner []int
	switch n.Kind {
	case api.Record:
		for _, f := range n.Fields {
			inner = append(inner, f.Type)
		}
	case api.Union:
		v.N = c.Int63n(int64(len(n.Branches)))
		inner = []int{n.Branches[v.N]}
	}
	for _, at := range inner {
		x, is := v, false
		if depth < 20 {
			x, is = c.value(s, at, depth+1)
		}
		if !is {
			return v, false
		}
		v.L = append(v.L, x)
	}
	return v, true
}

// tally is how often what is looked for was there.
type tally struct{ live, dead, values, later, much int }

// holdNodes holds Nodes against the second form.
func holdNodes(t *testing.T, s api.Schema) []bool {
	t.Helper()
	got, want := live.Nodes(s), make([]bool, len(s.Nodes))
	for at := range s.Nodes {
		want[at] = rank(s, at, map[int]bool{}) != never
	}
	if len(got) != len(want) || len(got) > 0 && !reflect.DeepEqual(got, want) {
		t.Fatalf("P11.1: Nodes(%+v): %v; want %v", s, got, want)
	}
	return want
}

// holdRight holds all that is said of a right schema.
func holdRight(t *testing.T, c chance, s api.Schema, seen *tally) {
	t.Helper()
	for at, is := range holdNodes(t, s) {
		v, as := live.Least(s, at)
		if !is {
			if seen.dead++; as || !reflect.DeepEqual(v, api.Value{}) {
				t.Fatalf("P11.1: Least(%+v, %d): %+v, %v; want none", s, at, v, as)
			}
			if x, is := c.value(s, at, 1); is && value.Fits(s, at, x) {
				t.Fatalf("Words: %+v fits the node %d of %+v, which is not live", x, at, s)
			}
			continue
		}
		want := least(s, at)
		count := value.Count(want)
		if as != (count <= api.MaxItems) || as && (!same(v, want) || !value.Fits(s, at, v)) {
			t.Fatalf("P11.1: Least(%+v, %d): %+v, %v; want %+v", s, at, v, as, want)
		}
		if seen.live++; count > 3 {
			seen.much++
		}
		if v.Kind == api.Union && v.N > 0 {
			seen.later++
		}
	}
}

func TestByChance(t *testing.T) {
	c, seen := chance{rand.New(rand.NewSource(11))}, tally{}
	for range 20000 {
		holdRight(t, c, c.right(), &seen)
		s := c.odd()
		for at, is := range holdNodes(t, s) {
			v, as := live.Least(s, at)
			if as && (!is || !value.Fits(s, at, v)) {
				t.Fatalf("P11.1: Least(%+v, %d): %+v", s, at, v)
			}
			if as {
				seen.values++
			}
		}
	}
	if seen.live < 50000 || seen.dead < 5000 || seen.values < 20000 || seen.later < 800 || seen.much < 5000 {
		t.Errorf("too few of what is looked for: %+v", seen)
	}
	t.Logf("%+v", seen)
}

func FuzzNodes(f *testing.F) {
	f.Add(int64(1))
	f.Fuzz(func(t *testing.T, seed int64) {
		c := chance{rand.New(rand.NewSource(seed))}
		holdRight(t, c, c.right(), &tally{})
		holdNodes(t, c.odd())
	})
}
