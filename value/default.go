package value

import (
	"courant/api"
	"courant/json"
	"slices"
	"strconv"
)

// wide is the first sign that is no byte's.
const wide = 0x100

// preset is a field that has a default: the place of its record, and its own place there.
type preset struct{ node, field int }

// maker makes one value. count is how many values have come so far. A record may come thousands of times, so the texts of its defaults are parsed but once.
type maker struct {
	nodes  []api.Node
	count  int
	parsed map[preset]api.Json
}

// Default is the value that j is for that node.
func Default(s api.Schema, node int, j api.Json) (api.Value, bool) {
	if !json.Right(j) {
		return api.Value{}, false
	}
	m := &maker{nodes: s.Nodes, parsed: map[preset]api.Json{}}
	return m.value(node, j, 1)
}

// value is what j is for that node, at that depth. That is at most MaxDepth, whatever the schema, so calls may be nested.
func (m *maker) value(node int, j api.Json, depth int) (api.Value, bool) {
	if node < 0 || node >= len(m.nodes) || depth > api.MaxDepth || !m.room(1) {
		return api.Value{}, false
	}
	m.count++
	out, is := api.Value{}, false
	switch n := m.nodes[node]; n.Kind {
	case api.Record:
		out.L, is = m.fields(node, j, depth)
	case api.Array:
		out.L, is = m.list(n.Items, api.JArray, j, depth)
	case api.Map:
		out.L, is = m.list(n.Items, api.JObject, j, depth)
		out.Keys = slices.Clone(j.Keys)
	case api.Union:
		out.L, is = m.first(n, j, depth)
	default:
		out, is = single(n, j)
	}
	if !is {
		return api.Value{}, false
	}
	out.Kind = m.nodes[node].Kind
	return out, true
}

// room tells whether so many more values may come.
func (m *maker) room(more int) bool {
	return more <= api.MaxItems-m.count
}

// list is what is within an array or an object, each a value of the node items.
func (m *maker) list(items, kind int, j api.Json, depth int) ([]api.Value, bool) {
	if j.Kind != kind || !m.room(len(j.L)) {
		return nil, false
	}
	out := make([]api.Value, 0, len(j.L))
	for _, x := range j.L {
		v, is := m.value(items, x, depth+1)
		if !is {
			return nil, false
		}
		out = append(out, v)
	}
	return out, true
}

// first is the one value of the union n: it is its first branch's.
func (m *maker) first(n api.Node, j api.Json, depth int) ([]api.Value, bool) {
	if len(n.Branches) == 0 {
		return nil, false
	}
	v, is := m.value(n.Branches[0], j, depth+1)
	if !is {
		return nil, false
	}
	return []api.Value{v}, true
}

// fields are the values of the fields of a record.
func (m *maker) fields(node int, j api.Json, depth int) ([]api.Value, bool) {
	fields := m.nodes[node].Fields
	if j.Kind != api.JObject || !m.room(len(fields)) || !known(j.Keys, fields) {
		return nil, false
	}
	out := make([]api.Value, 0, len(fields))
	for i, f := range fields {
		x, is := m.given(preset{node, i}, f, j)
		if !is {
			return nil, false
		}
		v, is := m.value(f.Type, x, depth+1)
		if !is {
			return nil, false
		}
		out = append(out, v)
	}
	return out, true
}

// given is what the object j says of the field f, or else what its default says.
func (m *maker) given(place preset, f api.Field, j api.Json) (api.Json, bool) {
	if at := slices.Index(j.Keys, f.Name); at >= 0 {
		return j.L[at], true
	}
	if !f.Has {
		return api.Json{}, false
	}
	if x, is := m.parsed[place]; is {
		return x, true
	}
	x, fault := json.Parse(f.Default)
	if fault != api.OK {
		return api.Json{}, false
	}
	m.parsed[place] = x
	return x, true
}

// known tells whether all keys, of which none is there twice, are names of fields.
func known(keys []string, fields []api.Field) bool {
	if len(keys) > len(fields) {
		return false
	}
keys:
	for _, key := range keys {
		for _, f := range fields {
			if f.Name == key {
				continue keys
			}
		}
		return false
	}
	return true
}

// single is what j is for a node whose values have none within them.
func single(n api.Node, j api.Json) (api.Value, bool) {
	out, is := api.Value{}, false
	switch n.Kind {
	case api.Null:
		is = j.Kind == api.JNull
	case api.Boolean:
		out.N, is = truth(j)
	case api.Int:
		out.N, is = number(j, 32)
	case api.Long:
		out.N, is = number(j, 64)
	case api.Float:
		out.B, is = digits(j, floatSize)
	case api.Double:
		out.B, is = digits(j, doubleSize)
	case api.Bytes:
		out.B, is = signs(j)
	case api.Fixed:
		out.B, is = signs(j)
		is = is && len(out.B) == n.Size
	case api.String:
		out.B, is = []byte(j.Text), j.Kind == api.JString
	case api.Enum:
		at := slices.Index(n.Symbols, j.Text)
		out.N, is = int64(at), j.Kind == api.JString && at >= 0
	}
	return out, is
}

func truth(j api.Json) (int64, bool) {
	if j.Kind == api.JTrue {
		return 1, true
	}
	return 0, j.Kind == api.JFalse
}

// number is a number of at most so many bits.
func number(j api.Json, bits int) (int64, bool) {
	if j.Kind != api.JNumber {
		return 0, false
	}
	n, err := strconv.ParseInt(j.Text, 10, bits)
	return n, err == nil
}

// digits are so many bytes, of two digits of 16 each.
func digits(j api.Json, size int) ([]byte, bool) {
	if j.Kind != api.JString || len(j.Text) != 2*size {
		return nil, false
	}
	out := make([]byte, size)
	for i := range len(j.Text) {
		d, is := digit(j.Text[i])
		if !is {
			return nil, false
		}
		out[i/2] = out[i/2]<<4 | d
	}
	return out, true
}

func digit(c byte) (byte, bool) {
	switch {
	case '0' <= c && c <= '9':
		return c - '0', true
	case 'a' <= c && c <= 'f':
		return c - 'a' + 10, true
	}
	return 0, false
}

// signs are the signs of a string, a byte each.
func signs(j api.Json) ([]byte, bool) {
	if j.Kind != api.JString {
		return nil, false
	}
	var out []byte
	for _, sign := range j.Text {
		if sign >= wide {
			return nil, false
		}
		out = append(out, byte(sign))
	}
	return out, true
}
