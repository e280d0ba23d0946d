package codec

import (
	"courant/api"
	"courant/code"
	"math"
	"unicode/utf8"
)

// Bytes of a Float and of a Double.
const (
	floatSize  = 4
	doubleSize = 8
)

// taker takes one value out of bytes. count is how many values have come so far.
type taker struct {
	nodes []api.Node
	from  *code.Reader
	count int
}

// value is the next value of that node, at that depth. That is at most MaxDepth, whatever the schema, so calls may be nested.
func (t *taker) value(node, depth int) (api.Value, api.Errno) {
	if node < 0 || node >= len(t.nodes) {
		return api.Value{}, api.ErrType
	}
	if depth > api.MaxDepth || t.count >= api.MaxItems {
		return api.Value{}, api.ErrLimit
	}
	t.count++
	out, fault := api.Value{}, api.OK
	switch n := t.nodes[node]; n.Kind {
	case api.Record:
		out.L, fault = t.fields(n, depth)
	case api.Array:
		out.L, fault = t.items(n, depth)
	case api.Map:
		out.Keys, out.L, fault = t.pairs(n, depth)
	case api.Union:
		out.N, out.L, fault = t.branch(n, depth)
	default:
		out, fault = t.single(n)
	}
	if fault != api.OK {
		return api.Value{}, fault
	}
	out.Kind = t.nodes[node].Kind
	return out, api.OK
}

func (t *taker) fields(n api.Node, depth int) ([]api.Value, api.Errno) {
	var out []api.Value
	for _, f := range n.Fields {
		v, fault := t.value(f.Type, depth+1)
		if fault != api.OK {
			return nil, fault
		}
		out = append(out, v)
	}
	return out, api.OK
}

func (t *taker) branch(n api.Node, depth int) (int64, []api.Value, api.Errno) {
	at, fault := t.number(0, int64(len(n.Branches))-1)
	if fault != api.OK {
		return 0, nil, fault
	}
	v, fault := t.value(n.Branches[at], depth+1)
	return at, []api.Value{v}, fault
}

func (t *taker) items(n api.Node, depth int) ([]api.Value, api.Errno) {
	var out []api.Value
	fault := t.blocks(func() api.Errno {
		v, fault := t.value(n.Items, depth+1)
		out = append(out, v)
		return fault
	})
	return out, fault
}

// pairs are the keys and the values of a map, no key being there twice, whichever blocks they stand in.
func (t *taker) pairs(n api.Node, depth int) ([]string, []api.Value, api.Errno) {
	var keys []string
	var out []api.Value
	seen := map[string]struct{}{}
	fault := t.blocks(func() api.Errno {
		b, fault := t.text()
		if fault != api.OK {
			return fault
		}
		v, fault := t.value(n.Items, depth+1)
		if fault != api.OK {
			return fault
		}
		key := string(b)
		if _, twice := seen[key]; twice {
			return api.ErrForm
		}
		seen[key] = struct{}{}
		keys, out = append(keys, key), append(out, v)
		return api.OK
	})
	return keys, out, fault
}

// blocks has each thing of some blocks taken by one, which is a call for each. There may be told to be more of them than any memory holds: it is their values' limit that ends them then.
func (t *taker) blocks(one func() api.Errno) api.Errno {
blocks:
	for {
		many, size, fault := t.head()
		switch {
		case fault != api.OK:
			return fault
		case many == 0:
			break blocks
		}
		left := t.from.Left()
		for range many {
			if fault := one(); fault != api.OK {
				return fault
			}
		}
		if size >= 0 && size != int64(left-t.from.Left()) {
			return api.ErrForm
		}
	}
	return api.OK
}

// head is how many things the next block has, and how many bytes; below 0, if it does not say that.
func (t *taker) head() (many, size int64, fault api.Errno) {
	many, fault = t.number(math.MinInt64, math.MaxInt64)
	if fault != api.OK || many >= 0 {
		return many, -1, fault
	}
	size, fault = t.number(0, math.MaxInt64)
	if fault == api.OK && many == math.MinInt64 { // it has no counterpart above 0
		fault = api.ErrForm
	}
	return -many, size, fault
}

// single is the next value of a node whose values have none within them.
func (t *taker) single(n api.Node) (out api.Value, fault api.Errno) {
	switch n.Kind {
	case api.Null:
	case api.Boolean:
		out.N, fault = t.truth()
	case api.Int:
		out.N, fault = t.number(math.MinInt32, math.MaxInt32)
	case api.Long:
		out.N, fault = t.number(math.MinInt64, math.MaxInt64)
	case api.Enum:
		out.N, fault = t.number(0, int64(len(n.Symbols))-1)
	case api.Float:
		out.B, fault = t.raw(floatSize)
	case api.Double:
		out.B, fault = t.raw(doubleSize)
	case api.Fixed:
		out.B, fault = t.raw(n.Size)
	case api.Bytes:
		out.B, fault = t.octets()
	case api.String:
		out.B, fault = t.text()
	default:
		fault = api.ErrType
	}
	return out, fault
}

func (t *taker) truth() (int64, api.Errno) {
	b, fault := t.raw(1)
	if fault != api.OK {
		return 0, fault
	}
	if b[0] > 1 {
		return 0, api.ErrForm
	}
	return int64(b[0]), api.OK
}

// number is the next number, which has to be one from least to most.
func (t *taker) number(least, most int64) (int64, api.Errno) {
	n := t.from.Zig()
	if fault := t.from.Err(); fault != api.OK {
		return 0, fault
	}
	if n < least || n > most {
		return 0, api.ErrForm
	}
	return n, api.OK
}

func (t *taker) raw(size int) ([]byte, api.Errno) {
	b := t.from.Raw(size)
	return b, t.from.Err()
}

func (t *taker) octets() ([]byte, api.Errno) {
	b := t.from.Text(api.MaxRecord)
	return b, t.from.Err()
}

// text is the next bytes, which have to be UTF-8.
func (t *taker) text() ([]byte, api.Errno) {
	b, fault := t.octets()
	if fault != api.OK {
		return nil, fault
	}
	if !utf8.Valid(b) {
		return nil, api.ErrForm
	}
	return b, api.OK
}
