package live

import (
	"courant/api"
	"math"
)

// never is the rank of a node that is not live: it is above all others.
const never = math.MaxInt

// step is a record or a union that is to be asked, from one of its fields or branches on.
type step struct{ node, part int }

// ranker finds the ranks of nodes. waiting is, for each node, what is to be asked again once it is live: by that, schemas of many nodes are not gone through as a whole each time.
type ranker struct {
	nodes   []api.Node
	ranks   []int
	waiting [][]step
}

// ranks are those of the nodes of s.
func ranks(s api.Schema) []int {
	r := &ranker{s.Nodes, make([]int, len(s.Nodes)), make([][]step, len(s.Nodes))}
	var steps []step
	for at, n := range s.Nodes {
		switch {
		case n.Kind == api.Record || n.Kind == api.Union:
			r.ranks[at] = never
			steps = append(steps, step{node: at})
		case n.Kind < api.Null || n.Kind > api.Fixed:
			r.ranks[at] = never
		}
	}
	for rank := 1; len(steps) > 0; rank++ {
		steps = r.round(steps, rank)
	}
	return r.ranks
}

// round gives that rank to those that are live by lesser ones, and tells what waited for them: nothing, once nothing changes.
func (r *ranker) round(steps []step, rank int) []step {
	var found []int
steps:
	for _, x := range steps {
		n := r.nodes[x.node]
		switch {
		case r.ranks[x.node] != never: // a union that waited for more than one of its branches
			continue steps
		case n.Kind == api.Union:
			if !r.some(n.Branches, rank, x) {
				continue steps
			}
		case n.Kind == api.Record:
			for i, f := range n.Fields[x.part:] {
				if !r.asked(f.Type, rank, step{x.node, x.part + i}) {
					continue steps
				}
			}
		}
		r.ranks[x.node] = rank
		found = append(found, x.node)
	}
	return r.woken(found)
}

// some tells whether one of those branches, from x on, has a lesser rank.
func (r *ranker) some(branches []int, rank int, x step) bool {
	for i, at := range branches[x.part:] {
		if r.asked(at, rank, step{x.node, x.part + i}) {
			return true
		}
	}
	return false
}

// asked tells whether the node at that place has a lesser rank; unless it has, x waits for it. (What waits for a place that is not there is never asked again.)
func (r *ranker) asked(at, rank int, x step) bool {
	if at < 0 || at >= len(r.nodes) {
		return false
	}
	if r.ranks[at] < rank {
		return true
	}
	r.waiting[at] = append(r.waiting[at], x)
	return false
}

// woken is what waited for those nodes.
func (r *ranker) woken(nodes []int) []step {
	var out []step
	for _, at := range nodes {
		out = append(out, r.waiting[at]...)
	}
	return out
}
