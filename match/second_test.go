package match_test

import (
	"math/rand"
	"slices"
	"strings"
	"testing"

	"courant/api"
	"courant/match"
)

// named is the chapter's words once more, in another form.
func named(w, r api.Node) bool {
	short := func(full string) string {
		pieces := strings.Split(full, ".")
		return pieces[len(pieces)-1]
	}
	for _, alias := range r.Aliases {
		if alias == w.Name {
			return true
		}
	}
	return short(w.Name) == short(r.Name)
}

// types is the chapter's words once more: it calls itself, and seen are the pairs that it is within.
func types(w api.Schema, i int, r api.Schema, k int, seen map[[2]int]bool) bool {
	if i < 0 || k < 0 || i >= len(w.Nodes) || k >= len(r.Nodes) || seen[[2]int{i, k}] {
		return false
	}
	a, b := w.Nodes[i], r.Nodes[k]
	if a.Kind == api.Union || b.Kind == api.Union {
		return true
	}
	if a.Kind == b.Kind {
		switch a.Kind {
		case api.Array, api.Map:
			seen[[2]int{i, k}] = true
			return types(w, a.Items, r, b.Items, seen)
		case api.Record, api.Enum:
			return named(a, b)
		case api.Fixed:
			return named(a, b) && a.Size == b.Size
		}
		return true
	}
	return a.Kind == api.Int && b.Kind == api.Long || a.Kind == api.String && b.Kind == api.Bytes
}

func branch(w api.Schema, i int, r api.Schema, k int) int {
	if k < 0 || k >= len(r.Nodes) || r.Nodes[k].Kind != api.Union {
		return -1
	}
	return slices.IndexFunc(r.Nodes[k].Branches, func(b int) bool { return types(w, i, r, b, map[[2]int]bool{}) })
}

func field(w api.Node, f api.Field) int {
	for _, name := range slices.Concat([]string{f.Name}, f.Aliases) {
		for at, x := range w.Fields {
			if x.Name == name {
				return at
			}
		}
	}
	return -1
}

// chance makes schemas: often lists, few names, places that may not be there.
type chance struct{ *rand.Rand }

func (c chance) name() string { return []string{"a", "b", "n.a", "n.b", "m.a", ""}[c.Intn(6)] }

func (c chance) names() (out []string) {
	for range c.Intn(3) {
		out = append(out, c.name())
	}
	return out
}

func (c chance) place(many int) int { return c.Intn(many+2) - 1 }

func (c chance) node(many int) api.Node {
	kinds := []int{api.Int, api.Long, api.String, api.Bytes, api.Record, api.Enum, api.Fixed, api.Union, c.Intn(16), api.Array, api.Array, api.Array, api.Array, api.Map}
	n := api.Node{Kind: kinds[c.Intn(len(kinds))], Name: c.name(), Aliases: c.names(), Size: c.Intn(2), Items: c.place(many)}
	for range c.Intn(5) {
		n.Branches = append(n.Branches, c.place(many))
		n.Fields = append(n.Fields, api.Field{Name: c.name(), Aliases: c.names()})
	}
	return n
}

func (c chance) schema() (s api.Schema) {
	many := c.Intn(9)
	for range many {
		s.Nodes = append(s.Nodes, c.node(many))
	}
	return s
}

func TestByChance(t *testing.T) {
	c, lists, branches := chance{rand.New(rand.NewSource(9))}, 0, 0
	for range 30000 {
		w, r := c.schema(), c.schema()
		for i := -1; i <= len(w.Nodes); i++ {
			for k := -1; k <= len(r.Nodes); k++ {
				want := types(w, i, r, k, map[[2]int]bool{})
				if is := match.Types(w, i, r, k); is != want {
					t.Fatalf("P9.1: Types of %d and %d: %v; %v and %v", i, k, is, w, r)
				}
				at := branch(w, i, r, k)
				if got := match.Branch(w, i, r, k); got != at {
					t.Fatalf("P9.2: Branch of %d and %d: %d; want %d; %v and %v", i, k, got, at, w, r)
				}
				if want && w.Nodes[i].Kind == api.Array && r.Nodes[k].Kind == api.Array {
					lists++
				}
				if at > 0 {
					branches++
				}
			}
		}
		a, b, f := c.node(1), c.node(1), api.Field{Name: c.name(), Aliases: c.names()}
		if is := match.Named(a, b); is != named(a, b) {
			t.Fatalf("P9.1: Named: %v; %v and %v", is, a, b)
		}
		if at := match.Field(a, f); at != field(a, f) {
			t.Fatalf("P9.2: Field: %d; %v and %v", at, a, f)
		}
	}
	if lists < 2000 || branches < 2000 {
		t.Errorf("too few of what is looked for: %d lists that match, %d branches behind the first one", lists, branches)
	}
}
