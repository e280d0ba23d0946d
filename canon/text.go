package canon

import (
	"courant/api"
	"courant/names"
	"courant/quote"
	"strconv"
)

// words are what kinds are called. A union has no word: it is told by its branches alone.
var words = [...]string{
	api.Null: "null", api.Boolean: "boolean", api.Int: "int", api.Long: "long", api.Float: "float", api.Double: "double", api.Bytes: "bytes", api.String: "string",
	api.Record: "record", api.Enum: "enum", api.Array: "array", api.Map: "map", api.Fixed: "fixed",
}

// writer is a text on its way.
type writer struct {
	nodes []api.Node
	plain bool             // what Canonical leaves out is left out
	stood map[int]struct{} // the places of definitions that stand in the text
	out   []byte
	none  bool // there is no text, whatever comes
}

// text is that of a schema; empty, if it has none.
func text(s api.Schema, plain bool) string {
	w := &writer{nodes: s.Nodes, plain: plain, stood: map[int]struct{}{}}
	w.node(0)
	if w.none {
		return ""
	}
	return string(w.out)
}

// put writes a piece. A text that is too long is given up at once, so that schemas without an end, or with too far a one, come to one; and as each node writes ahead of those within it, calls are never nested deeper than a text is long.
func (w *writer) put(piece string) {
	if w.none || len(piece) > api.MaxSchema-len(w.out) {
		w.none = true
		return
	}
	w.out = append(w.out, piece...)
}

func (w *writer) quote(s string) {
	// What is too long by itself need not be gone through.
	if len(s) > api.MaxSchema {
		w.none = true
		return
	}
	w.put(quote.Text(s))
}

// name writes the full name of a definition.
func (w *writer) name(full string) {
	if !w.plain {
		full = names.Write(full)
	}
	w.quote(full)
}

// node writes the type at a place.
func (w *writer) node(at int) {
	if w.none || at < 0 || at >= len(w.nodes) {
		w.none = true
		return
	}
	n := w.nodes[at]
	switch n.Kind {
	case api.Array:
		w.container(n, "items")
	case api.Map:
		w.container(n, "values")
	case api.Union:
		list(w, n.Branches, w.node)
	case api.Record, api.Enum, api.Fixed:
		if _, is := w.stood[at]; is {
			w.name(n.Name)
			return
		}
		w.stood[at] = struct{}{}
		w.definition(n)
	default:
		w.primitive(n.Kind)
	}
}

// list writes what one writes of each of the items, as an array.
func list[T any](w *writer, items []T, one func(T)) {
	w.put("[")
	for i, x := range items {
		if w.none {
			return
		}
		if i > 0 {
			w.put(",")
		}
		one(x)
	}
	w.put("]")
}

// container writes an array or a map; the key says of what.
func (w *writer) container(n api.Node, key string) {
	w.put(`{"type":"` + words[n.Kind] + `","` + key + `":`)
	w.node(n.Items)
	w.put("}")
}

func (w *writer) primitive(kind int) {
	if kind < 0 || kind >= len(words) || words[kind] == "" {
		w.none = true
		return
	}
	w.quote(words[kind])
}

// definition writes a type that has a name.
func (w *writer) definition(n api.Node) {
	w.head(n)
	switch n.Kind {
	case api.Record:
		w.put(`,"fields":`)
		list(w, n.Fields, w.field)
	case api.Enum:
		w.put(`,"symbols":`)
		list(w, n.Symbols, w.quote)
		if n.Has && !w.plain {
			w.put(`,"default":`)
			w.quote(n.Default)
		}
	case api.Fixed:
		w.put(`,"size":` + strconv.Itoa(max(n.Size, 0)))
	}
	w.put("}")
}

// head writes what definitions of all kinds have.
func (w *writer) head(n api.Node) {
	if w.plain {
		w.put(`{"name":`)
		w.name(n.Name)
		w.put(`,"type":"` + words[n.Kind] + `"`)
		return
	}
	w.put(`{"type":"` + words[n.Kind] + `","name":`)
	w.name(n.Name)
	if len(n.Aliases) > 0 {
		w.put(`,"aliases":`)
		list(w, n.Aliases, w.name)
	}
}

// field writes one of a record. Its name and its aliases have no namespace, so they stand as they are.
func (w *writer) field(f api.Field) {
	w.put(`{"name":`)
	w.quote(f.Name)
	w.put(`,"type":`)
	w.node(f.Type)
	if !w.plain {
		if len(f.Aliases) > 0 {
			w.put(`,"aliases":`)
			list(w, f.Aliases, w.quote)
		}
		if f.Has {
			w.put(`,"default":`)
			w.put(f.Default)
		}
	}
	w.put("}")
}
