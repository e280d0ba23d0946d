package resolve

import (
	"courant/api"
	"courant/json"
	"courant/match"
	"courant/value"
	"slices"
)

// pair is the place of a node of the writer's schema, and that of one of the reader's.
type pair struct{ from, to int }

// plan is what the nodes of a pair by themselves say of how a value is read.
type plan struct {
	reads   bool  // whether it is at all
	branch  int   // as which branch of a union
	sources []int // where the fields of a record are read from
}

// plan is that of a pair whose first node is there, and no union.
func (t *turner) plan(at pair) plan {
	if p, is := t.plans[at]; is {
		return p
	}
	p := plan{reads: match.Types(t.w, at.from, t.r, at.to)}
	if p.reads {
		switch to := t.r.Nodes[at.to]; to.Kind {
		case api.Union: // all types match it, but perhaps none of its branches
			p.branch = match.Branch(t.w, at.from, t.r, at.to)
			p.reads = p.branch != none
		case api.Record:
			p.sources = sources(t.w.Nodes[at.from], to)
		}
	}
	t.plans[at] = p
	return p
}

// sources tells from which field of the record w each one of r is read; none, if its default is to stand there. They end ahead of one that has neither, as what is behind it is never come to.
func sources(w, r api.Node) []int {
	var out []int
fields:
	for _, f := range r.Fields {
		at := match.Field(w, f)
		switch {
		case at != none:
			out = append(out, at)
			continue fields
		case !f.Has:
			break fields
		}
		out = append(out, none)
	}
	return out
}

// spot is the place of a record of the reader's, and that of a field there.
type spot struct{ node, field int }

// preset is the default of a field, and how many values that is: 0, if there is none.
type preset struct {
	value api.Value
	count int
}

// preset is the default of a field as a value that comes, in memory of its own.
func (t *turner) preset(at spot) (api.Value, api.Errno) {
	p, is := t.presets[at]
	if !is {
		p = defaultOf(t.r, t.r.Nodes[at.node].Fields[at.field])
		t.presets[at] = p
	}
	if p.count == 0 {
		return api.Value{}, api.ErrMatch
	}
	if !t.come(p.count) {
		return api.Value{}, api.ErrLimit
	}
	return copied(p.value), api.OK
}

func defaultOf(r api.Schema, f api.Field) preset {
	j, fault := json.Parse(f.Default)
	if fault != api.OK {
		return preset{}
	}
	v, is := value.Default(r, f.Type, j)
	if !is {
		return preset{}
	}
	return preset{v, value.Count(v)}
}

// copied is v, a default, in new memory. It is at most MaxDepth deep, so calls may be nested.
func copied(v api.Value) api.Value {
	v.B, v.L, v.Keys = slices.Clone(v.B), slices.Clone(v.L), slices.Clone(v.Keys)
	for i, x := range v.L {
		v.L[i] = copied(x)
	}
	return v
}
