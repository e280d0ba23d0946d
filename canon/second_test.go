package canon_test

import (
	"fmt"
	"math/rand"
	"reflect"
	"slices"
	"strconv"
	"strings"
	"testing"

	"courant/api"
	"courant/canon"
	"courant/schema"
)

// second is the chapter's words once more, in another form: pieces of text put together, a schema without a text being thrown.
type second struct {
	s     api.Schema
	plain bool
	done  []int
	left  int // types that may yet be written: each has two bytes or more
}

type noText struct{}

func judge(s api.Schema, plain bool) (out string) {
	defer func() {
		if x := recover(); x != nil {
			_ = x.(noText)
			out = ""
		}
	}()
	out = (&second{s: s, plain: plain, left: 10000}).at(0)
	if len(out) > 20000 {
		out = ""
	}
	return out
}

func (x *second) at(i int) string {
	if x.left--; x.left < 0 || i < 0 || i >= len(x.s.Nodes) {
		panic(noText{})
	}
	n := x.s.Nodes[i]
	switch n.Kind {
	case 1, 2, 3, 4, 5, 6, 7, 8:
		return `"` + strings.Fields("null boolean int long float double bytes string")[n.Kind-1] + `"`
	case 11:
		return `{"type":"array","items":` + x.at(n.Items) + "}"
	case 12:
		return `{"type":"map","values":` + x.at(n.Items) + "}"
	case 13:
		var list []string
		for _, b := range n.Branches {
			list = append(list, x.at(b))
		}
		return "[" + strings.Join(list, ",") + "]"
	case 9, 10, 14:
		for _, d := range x.done {
			if d == i {
				return said(x.full(n.Name))
			}
		}
		x.done = append(x.done, i)
		return x.define(n)
	}
	panic(noText{})
}

func (x *second) full(name string) string {
	if !x.plain && !strings.Contains(name, ".") {
		return "." + name
	}
	return name
}

// said is a string of JSON.
func said(text string) string {
	out := ""
	for _, c := range []byte(text) {
		switch {
		case c < 32:
			out += fmt.Sprintf(`\u%04x`, c)
		case strings.IndexByte(`"\`, c) >= 0:
			out += `\` + string(rune(c))
		default:
			out += string([]byte{c})
		}
	}
	return `"` + out + `"`
}

func list(texts []string, each func(string) string) string {
	var out []string
	for _, t := range texts {
		out = append(out, said(each(t)))
	}
	return "[" + strings.Join(out, ",") + "]"
}

func bare(s string) string { return s }

func (x *second) define(n api.Node) string {
	pairs := []string{"type", `"` + map[int]string{9: "record", 10: "enum", 14: "fixed"}[n.Kind] + `"`, "name", said(x.full(n.Name))}
	if x.plain {
		pairs[0], pairs[1], pairs[2], pairs[3] = pairs[2], pairs[3], pairs[0], pairs[1]
	} else if len(n.Aliases) > 0 {
		pairs = append(pairs, "aliases", list(n.Aliases, x.full))
	}
	switch n.Kind {
	case 9:
		var fields []string
		for _, f := range n.Fields {
			p := []string{"name", said(f.Name), "type", x.at(f.Type)}
			if len(f.Aliases) > 0 && !x.plain {
				p = append(p, "aliases", list(f.Aliases, bare))
			}
			if f.Has && !x.plain {
				p = append(p, "default", f.Default)
			}
			fields = append(fields, object(p))
		}
		pairs = append(pairs, "fields", "["+strings.Join(fields, ",")+"]")
	case 10:
		pairs = append(pairs, "symbols", list(n.Symbols, bare))
		if n.Has && !x.plain {
			pairs = append(pairs, "default", said(n.Default))
		}
	case 14:
		size := "0"
		if n.Size > 0 {
			size = strconv.FormatInt(int64(n.Size), 10)
		}
		pairs = append(pairs, "size", size)
	}
	return object(pairs)
}

func object(pairs []string) string {
	var list []string
	for i := 0; i < len(pairs); i += 2 {
		list = append(list, `"`+pairs[i]+`":`+pairs[i+1])
	}
	return "{" + strings.Join(list, ",") + "}"
}

// chance makes schemas, and texts of some.
type chance struct {
	*rand.Rand
	names int
}

func (c chance) pick(list ...string) string { return list[c.Intn(len(list))] }

func (c chance) text() string {
	return c.pick("a", "b", "n.a", "n.m.b", "", ".", ".a", "int", "\xff", "a\xffb\xff", "\"", "\\", "\\n", "/", "\x00\n\t", "\x1f \x7f", "<&>", "\u00e9", "\U0001f600", "\u0416")
}

func (c chance) texts() (out []string) {
	for range c.Intn(3) * c.Intn(2) {
		out = append(out, c.text())
	}
	return out
}

// graph is a schema of any nodes, with places that are mostly there, and mostly lead on.
func (c chance) graph() (s api.Schema) {
	many, odd := 1+c.Intn(9), 2+c.Intn(20)
	place := func(at int) int {
		if c.Intn(odd) == 0 {
			return c.Intn(many+3) - 1
		}
		return min(at+1+c.Intn(2), many-1)
	}
	for at := range many {
		n := api.Node{Kind: 1 + c.Intn(14), Name: c.text(), Aliases: c.texts(), Symbols: c.texts(), Has: c.Intn(2) == 0, Default: c.text(), Size: c.Intn(2000) - 500, Items: place(at)}
		if at < many-1 && c.Intn(3) > 0 {
			n.Kind = []int{api.Record, api.Array, api.Map, api.Union, api.Record, api.Union}[c.Intn(6)]
		}
		if at == many-1 && c.Intn(5) > 0 {
			n.Kind = []int{1, 2, 3, 4, 5, 6, 7, 8, 10, 14}[c.Intn(10)]
		}
		if c.Intn(10*odd) == 0 {
			n.Kind = c.Intn(20) - 2
		}
		for range c.Intn(4) {
			n.Branches = append(n.Branches, place(at))
			f := api.Field{Name: c.text(), Aliases: c.texts(), Type: place(at), Has: c.Intn(2) == 0, Default: c.text()}
			if c.Intn(3) == 0 {
				f.Type = c.Intn(at + 1)
			}
			n.Fields = append(n.Fields, f)
		}
		s.Nodes = append(s.Nodes, n)
	}
	return s
}

// object is the text of an object, with white and its keys in any order; what is empty is left out.
func (c chance) object(pairs ...string) string {
	var list []string
	for i := 0; i < len(pairs); i += 2 {
		if pairs[i+1] != "" {
			list = append(list, `"`+pairs[i]+`"`+c.pick("", " ")+":"+pairs[i+1])
		}
	}
	c.Shuffle(len(list), func(i, j int) { list[i], list[j] = list[j], list[i] })
	return c.pick("{", "{ ") + strings.Join(list, c.pick(",", " ,\n")) + "}"
}

// kind is the text of a type; known are names that may be said there. It is right, but perhaps for unions with two branches alike.
func (c *chance) kind(depth int, known *[]string) string {
	if depth == 0 || c.Intn(5) == 0 {
		if len(*known) > 0 && c.Intn(2) == 0 {
			return `"` + (*known)[c.Intn(len(*known))] + `"`
		}
		return `"` + c.pick("null", "boolean", "int", "long", "float", "double", "bytes", "string") + `"`
	}
	switch c.Intn(7) {
	case 0:
		return c.object("type", c.kind(depth-1, known), "items", c.pick("", "1"))
	case 1:
		return c.object("type", `"array"`, "items", c.kind(depth-1, known), "name", c.pick("", `"9"`))
	case 2:
		return c.object("type", `"map"`, "values", c.kind(depth-1, known))
	case 3:
		list := []string{c.kind(depth-1, known)}
		for range c.Intn(3) {
			list = append(list, c.kind(depth-1, known))
		}
		return "[" + strings.Join(list, ", ") + "]"
	}
	return c.defined(depth, known)
}

// defined is the text of a definition; its name is known by its full name from then on.
func (c *chance) defined(depth int, known *[]string) string {
	c.names++
	name, space := "d"+strconv.Itoa(c.names), c.pick("n.m", "m", "x", "")
	*known = append(*known, strings.TrimPrefix(space+"."+name, ".")) // without a point it is known where no namespace is around
	if space == "" {
		(*known)[len(*known)-1] = "." + name
	}
	told, given := `"`+name+`"`, `"`+space+`"`
	if c.Intn(2) == 0 {
		told, given = `"`+space+"."+name+`"`, c.pick("", `"o"`, `""`)
	}
	aliases := c.pick("", "[]", `["a"]`, `["a",".b", "x.y.c"]`)
	switch c.Intn(4) {
	case 0:
		return c.object("type", `"enum"`, "name", told, "namespace", given, "aliases", aliases, "symbols", c.pick(`["A"]`, `["B" ,"A","C"]`), "default", c.pick("", `"A"`), "doc", c.pick("", `"A"`))
	case 1:
		return c.object("type", `"fixed"`, "name", told, "namespace", given, "aliases", aliases, "size", strconv.Itoa(c.Intn(1001)))
	}
	fields := []string{}
	for i := range c.Intn(5) {
		kind, byDefault := c.kind(depth-1, known), ""
		switch kind { // of these all defaults are right
		case `"null"`:
			byDefault = c.pick("", "null")
		case `"int"`, `"long"`:
			byDefault = c.pick("", "-0", "17")
		case `"string"`, `"bytes"`:
			byDefault = c.pick("", `""`, `"\u0061\n\/\b\""`)
		}
		fields = append(fields, c.object("name", `"f`+strconv.Itoa(i)+`"`, "type", kind, "aliases", c.pick("", "[]", `["a","a"]`, `["int"]`), "default", byDefault, "doc", c.pick("", "{}")))
	}
	return c.object("type", c.pick(`"record"`, `"error"`), "name", told, "namespace", given, "aliases", aliases, "fields", "["+strings.Join(fields, ",")+"]")
}

// turn turns one thing of a schema, in memory of its own.
func (c *chance) turn(s api.Schema) api.Schema {
	s.Nodes = slices.Clone(s.Nodes)
	at := c.Intn(len(s.Nodes))
	n := &s.Nodes[at]
	place := c.Intn(len(s.Nodes)+1) - c.Intn(2)
	switch c.Intn(12) {
	case 0:
		n.Kind = c.Intn(16)
	case 1:
		n.Name += c.text()
	case 2:
		n.Aliases = append(slices.Clone(n.Aliases), c.text())
	case 3:
		n.Symbols = append(slices.Clone(n.Symbols), c.pick("A", "D", "9"))
	case 4:
		n.Has = !n.Has
	case 5:
		n.Default = c.pick("A", "B", "")
	case 6:
		n.Items = place
	case 7:
		n.Branches = append(slices.Clone(n.Branches), place)
	case 8:
		n.Size = c.Intn(2000) - 500
	case 9:
		s.Nodes = append(s.Nodes, s.Nodes[c.Intn(len(s.Nodes))])
	case 10:
		s.Nodes = s.Nodes[:len(s.Nodes)-1]
	default:
		n.Fields = slices.Clone(n.Fields)
		if len(n.Fields) == 0 {
			n.Fields = append(n.Fields, api.Field{})
		}
		f := &n.Fields[c.Intn(len(n.Fields))]
		switch c.Intn(5) {
		case 0:
			f.Name = c.pick("f0", "f1", "g", "9")
		case 1:
			f.Aliases = append(slices.Clone(f.Aliases), c.text())
		case 2:
			f.Type = place
		case 3:
			f.Has = !f.Has
		case 4:
			f.Default = c.pick("17", "18", "-0", "null", " 1", "{}", "")
		}
	}
	return s
}

// flat is a schema without lists that are not nil, but empty.
func flat(s api.Schema) api.Schema {
	s.Nodes = slices.Clone(s.Nodes)
	for i := range s.Nodes {
		n := &s.Nodes[i]
		n.Aliases, n.Symbols, n.Branches, n.Fields = cut(n.Aliases), cut(n.Symbols), cut(n.Branches), cut(slices.Clone(n.Fields))
		for j := range n.Fields {
			n.Fields[j].Aliases = cut(n.Fields[j].Aliases)
		}
	}
	return s
}

func cut[T any](list []T) []T {
	if len(list) == 0 {
		return nil
	}
	return list
}

// holdSecond holds a schema's texts against the second form's, and whether it is right; it is what Print should be.
func holdSecond(t *testing.T, s api.Schema) (print string, right bool) {
	t.Helper()
	print, plain := judge(s, false), judge(s, true)
	if got := canon.Print(s); got != print {
		t.Fatalf("P6.1: Print(%+v): %.500s; want %.500s", s, got, print)
	}
	if got := canon.Canonical(s); got != plain {
		t.Fatalf("P6.2: Canonical(%+v): %.500s; want %.500s", s, got, plain)
	}
	again, e := schema.Parse(print)
	right = e == api.OK && reflect.DeepEqual(flat(again).Nodes, flat(s).Nodes)
	if canon.Right(s) != right {
		t.Fatalf("P6.3: Right(%+v): %v; want %v", s, !right, right)
	}
	return print, right
}

func TestAgainstSecondForm(t *testing.T) {
	c := chance{Rand: rand.New(rand.NewSource(6))}
	texts, none, sum := 0, 0, 0
	for range 20000 {
		print, _ := holdSecond(t, c.graph())
		if print == "" {
			none++
		} else {
			texts++
		}
		sum += len(print)
	}
	if texts < 10000 || none < 2000 || sum < 1000000 {
		t.Errorf("by chance only %d schemas with texts (%d bytes), %d without", texts, sum, none)
	}
}

// TestWhatFollows: what was parsed is right, if its text is not too long; its text is parsed as the same schema, whose text is the same. With one thing turned it is mostly not right.
func TestWhatFollows(t *testing.T) {
	c := &chance{Rand: rand.New(rand.NewSource(7))}
	count, nodes, stay, leave := 0, 0, 0, 0
	for i := range 12000 {
		var known []string
		c.names = 0
		text := c.defined(1+i%7, &known)
		if i%3 == 0 {
			text = c.kind(1+i%7, &known)
		}
		s, e := schema.Parse(text)
		if e != api.OK {
			if e != api.ErrType && e != api.ErrLimit {
				t.Fatalf("Parse(%s): error %d", text, e)
			}
			continue // two branches alike, or too many nodes
		}
		print, right := holdSecond(t, s)
		again, e := schema.Parse(print)
		if e != api.OK || !right || canon.Print(again) != print {
			t.Fatalf("What follows: of %s the text is %s, error %d, right: %v, then %s", text, print, e, right, canon.Print(again))
		}
		count++
		nodes = max(nodes, len(s.Nodes))
		if _, right := holdSecond(t, c.turn(s)); right {
			stay++
		} else {
			leave++
		}
	}
	if count < 6000 || nodes < 30 || stay < 200 || leave < 4000 {
		t.Errorf("by chance only %d schemas, up to %d nodes; turned %d are right, %d are not", count, nodes, stay, leave)
	}
}
