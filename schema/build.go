package schema

import (
	"courant/api"
	"courant/json"
	"courant/names"
	"slices"
)

// builder is the nodes that were made so far, and the places of those that have a name, by it.
type builder struct {
	nodes   []api.Node
	defined map[string]int
}

// read is the place of the node of the type j, with that space around. What Parse tells is nested at most MaxDepth deep, so calls may be.
func (b *builder) read(j api.Json, space string) (int, api.Errno) {
	switch j.Kind {
	case api.JString:
		return b.called(j.Text, space)
	case api.JArray:
		return b.union(j, space)
	case api.JObject:
		return b.object(j, space)
	}
	return 0, api.ErrType
}

// add makes a node.
func (b *builder) add(kind int) (int, api.Errno) {
	if len(b.nodes) >= api.MaxNodes {
		return 0, api.ErrLimit
	}
	b.nodes = append(b.nodes, api.Node{Kind: kind})
	return len(b.nodes) - 1, api.OK
}

// called is a type that is told by its name: a primitive's, or that of one that is defined.
func (b *builder) called(name, space string) (int, api.Errno) {
	if kind := names.Primitive(name); kind != 0 {
		return b.add(kind)
	}
	if full, is := names.Make(name, space); is {
		if at, is := b.defined[full]; is {
			return at, api.OK
		}
	}
	return 0, api.ErrType
}

func (b *builder) union(j api.Json, space string) (int, api.Errno) {
	at, fault := b.add(api.Union)
	if fault != api.OK {
		return 0, fault
	}
	if len(j.L) == 0 {
		return 0, api.ErrType
	}
	branches := make([]int, 0, len(j.L))
	for _, x := range j.L {
		branch, fault := b.read(x, space)
		if fault != api.OK {
			return 0, fault
		}
		branches = append(branches, branch)
	}
	if !b.apart(branches) {
		return 0, api.ErrType
	}
	b.nodes[at].Branches = branches
	return at, api.OK
}

// apart tells whether none of the branches is a union, and no two are alike, so that each value is of one of them at most.
func (b *builder) apart(branches []int) bool {
	for i, branch := range branches {
		kind := b.nodes[branch].Kind
		if kind == api.Union {
			return false
		}
	ahead:
		for _, other := range branches[:i] {
			switch {
			case b.nodes[other].Kind != kind:
				continue ahead
			case named(kind) && other != branch:
				continue ahead
			}
			return false
		}
	}
	return true
}

// named tells whether types of that kind are told apart by their names.
func named(kind int) bool {
	return kind == api.Record || kind == api.Enum || kind == api.Fixed
}

// object is a type that is told by what the key "type" of an object says.
func (b *builder) object(j api.Json, space string) (int, api.Errno) {
	inner, is := json.Get(j, "type")
	if !is {
		return 0, api.ErrType
	}
	if inner.Kind != api.JString {
		return b.read(inner, space)
	}
	switch inner.Text {
	case "array":
		return b.container(api.Array, j, "items", space)
	case "map":
		return b.container(api.Map, j, "values", space)
	case "record", "error":
		return b.definition(api.Record, j, space)
	case "enum":
		return b.definition(api.Enum, j, space)
	case "fixed":
		return b.definition(api.Fixed, j, space)
	}
	return b.called(inner.Text, space)
}

// container is an array or a map; the key says of what.
func (b *builder) container(kind int, j api.Json, key, space string) (int, api.Errno) {
	at, fault := b.add(kind)
	if fault != api.OK {
		return 0, fault
	}
	within, is := json.Get(j, key)
	if !is {
		return 0, api.ErrType
	}
	items, fault := b.read(within, space)
	if fault != api.OK {
		return 0, fault
	}
	b.nodes[at].Items = items
	return at, api.OK
}

// definition is a type that has a name. It is defined ahead of what is within it, so that it may stand there.
func (b *builder) definition(kind int, j api.Json, space string) (int, api.Errno) {
	at, fault := b.add(kind)
	if fault != api.OK {
		return 0, fault
	}
	full, is := fullName(j, space)
	if !is {
		return 0, api.ErrName
	}
	if _, twice := b.defined[full]; twice {
		return 0, api.ErrTwice
	}
	aliases, is := fullAliases(j, names.Space(full))
	if !is {
		return 0, api.ErrName
	}
	b.nodes[at].Name, b.nodes[at].Aliases = full, aliases
	b.defined[full] = at
	if fault := b.fill(at, j); fault != api.OK {
		return 0, fault
	}
	return at, api.OK
}

// fill gives the node of a definition what its kind has beside its names.
func (b *builder) fill(at int, j api.Json) (fault api.Errno) {
	// A record's types make new nodes, so the list may have moved by the time that it is filled.
	n := b.nodes[at]
	switch n.Kind {
	case api.Record:
		n.Fields, fault = b.fields(j, names.Space(n.Name))
	case api.Enum:
		n.Symbols, fault = symbols(j)
		if fault == api.OK {
			n.Default, n.Has, fault = symbol(j, n.Symbols)
		}
	case api.Fixed:
		n.Size, fault = size(j)
	}
	b.nodes[at] = n
	return fault
}

// fields are those of a record with that space around.
func (b *builder) fields(j api.Json, space string) ([]api.Field, api.Errno) {
	list, is := json.Get(j, "fields")
	if !is || list.Kind != api.JArray {
		return nil, api.ErrType
	}
	var out []api.Field
	for _, x := range list.L {
		f, fault := b.field(x, space, out)
		if fault != api.OK {
			return nil, fault
		}
		out = append(out, f)
	}
	return out, api.OK
}

// field is the one that x tells, behind those that are ahead of it.
func (b *builder) field(x api.Json, space string, ahead []api.Field) (api.Field, api.Errno) {
	if x.Kind != api.JObject {
		return api.Field{}, api.ErrType
	}
	name, is := json.Get(x, "name")
	if !is || !simple(name) {
		return api.Field{}, api.ErrName
	}
	if slices.ContainsFunc(ahead, func(f api.Field) bool { return f.Name == name.Text }) {
		return api.Field{}, api.ErrTwice
	}
	aliases, is := simpleAliases(x)
	if !is {
		return api.Field{}, api.ErrName
	}
	inner, is := json.Get(x, "type")
	if !is {
		return api.Field{}, api.ErrType
	}
	at, fault := b.read(inner, space)
	if fault != api.OK {
		return api.Field{}, fault
	}
	out := api.Field{Name: name.Text, Aliases: aliases, Type: at}
	if given, has := json.Get(x, "default"); has {
		out.Has, out.Default = true, json.Print(given)
	}
	return out, api.OK
}
