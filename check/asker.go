package check

import (
	"courant/api"
	"courant/live"
	"courant/match"
	"iter"
	"slices"
)

// none is the place of what there is not.
const none = -1

// pair is the place of a node of the writer's schema, and that of one of the reader's.
type pair struct{ from, to int }

// asker asks of pairs whether they hold. lives is which of the writer's nodes are live.
type asker struct {
	w, r  api.Schema
	lives []bool
}

func newAsker(w, r api.Schema) *asker { return &asker{w, r, live.Nodes(w)} }

// pairs tells the pairs that are asked, from the first nodes on, in depth, and whether each holds by itself. It keeps a list of its own of what is open, as pairs may lead farther than calls may be nested.
func (a *asker) pairs() iter.Seq2[pair, bool] {
	return func(yield func(pair, bool) bool) {
		if !begun(a.w, a.r) {
			return
		}
		asked := map[pair]struct{}{}
		open := [][]pair{{{0, 0}}} // the rest of each list of pairs on the way to the one that is asked
	pairs:
		for len(open) > 0 {
			last := len(open) - 1
			for i, at := range open[last] {
				if _, is := asked[at]; is || !a.isLive(at.from) {
					continue
				}
				asked[at] = struct{}{}
				holds, leads := a.ask(at)
				if !yield(at, holds) {
					return
				}
				open[last] = open[last][i+1:]
				open = append(open, leads)
				continue pairs
			}
			open = open[:last]
		}
	}
}

// isLive tells whether the writer has a node at that place which has a value at all.
func (a *asker) isLive(at int) bool {
	return at >= 0 && at < len(a.lives) && a.lives[at]
}

// ask tells of a pair whose first node is live whether it holds by itself, and the pairs that it leads to.
func (a *asker) ask(at pair) (bool, []pair) {
	if !match.Types(a.w, at.from, a.r, at.to) {
		return false, nil
	}
	from, to := a.w.Nodes[at.from], a.r.Nodes[at.to]
	switch {
	case from.Kind == api.Union:
		return true, branches(from, at.to)
	case to.Kind == api.Union: // all types match it, but perhaps none of its branches
		branch := match.Branch(a.w, at.from, a.r, at.to)
		if branch == none {
			return false, nil
		}
		return true, []pair{{at.from, to.Branches[branch]}}
	case to.Kind == api.Enum:
		return symbols(from, to), nil
	case to.Kind == api.Array || to.Kind == api.Map:
		return true, []pair{{from.Items, to.Items}}
	case to.Kind == api.Record:
		return fields(from, to)
	}
	return true, nil
}

// branches are the pairs of a union of the writer's: whichever of its branches was written, the reader's node at that place has to read it.
func branches(w api.Node, to int) []pair {
	var out []pair
	for _, from := range w.Branches {
		out = append(out, pair{from, to})
	}
	return out
}

// symbols tells whether an enum of the reader's has a symbol for each one of w.
func symbols(w, r api.Node) bool {
	return r.Has || !slices.ContainsFunc(w.Symbols, func(name string) bool {
		return !slices.Contains(r.Symbols, name)
	})
}

// fields tells whether each field of a record of the reader's is filled, and the pairs of those that are read from one of w.
func fields(w, r api.Node) (bool, []pair) {
	var leads []pair
	filled := true
	for _, f := range r.Fields {
		at := match.Field(w, f)
		switch {
		case at != none:
			leads = append(leads, pair{w.Fields[at].Type, f.Type})
		case !f.Has:
			filled = false
		}
	}
	return filled, leads
}
