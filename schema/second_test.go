package schema_test

import (
	library "encoding/json"
	"math/rand"
	"regexp"
	"strconv"
	"strings"
	"testing"

	"courant/api"
	"courant/json"
	"courant/schema"
	"courant/value"
)

// second is the chapter's words once more, in another form: over the Go library's JSON, with faults that are thrown.
type second struct {
	nodes []*api.Node
	types map[string]int
}

var (
	simple = regexp.MustCompile(`^[A-Za-z_][A-Za-z0-9_]*$`)
	full   = regexp.MustCompile(`^[A-Za-z_][A-Za-z0-9_]*(\.[A-Za-z_][A-Za-z0-9_]*)*$`)
	kinds  = map[string]int{"null": 1, "boolean": 2, "int": 3, "long": 4, "float": 5, "double": 6, "bytes": 7, "string": 8}
)

func must(is bool, fault api.Errno) {
	if !is {
		panic(fault)
	}
}

// judge is what Parse should answer of a text that is JSON.
func judge(text string) (out []api.Node, fault api.Errno) {
	defer func() {
		if x := recover(); x != nil {
			out, fault = nil, x.(api.Errno)
		}
	}()
	var j any
	reader := library.NewDecoder(strings.NewReader(text))
	reader.UseNumber()
	must(reader.Decode(&j) == nil, -1)
	s := &second{types: map[string]int{}}
	s.kind(j, "")
	for _, n := range s.nodes {
		out = append(out, *n)
	}
	for _, n := range out {
		for _, f := range n.Fields {
			if f.Has {
				x, e := json.Parse(f.Default)
				_, is := value.Default(api.Schema{Nodes: out}, f.Type, x)
				must(e == api.OK && is, api.ErrDefault)
			}
		}
	}
	return out, api.OK
}

func (s *second) node(kind int) (int, *api.Node) {
	must(len(s.nodes) < 200, api.ErrLimit)
	n := &api.Node{Kind: kind}
	s.nodes = append(s.nodes, n)
	return len(s.nodes) - 1, n
}

func (s *second) word(name, space string) int {
	if kind, is := kinds[name]; is {
		at, _ := s.node(kind)
		return at
	}
	at, is := s.types[whole(name, space, api.ErrType)]
	must(is, api.ErrType)
	return at
}

// whole is P3.2's Make.
func whole(name, space string, fault api.Errno) string {
	if space != "" && !strings.Contains(name, ".") {
		name = space + "." + name
	} else if rest := strings.TrimPrefix(name, "."); rest != name {
		must(simple.MatchString(rest), fault)
		name = rest
	}
	must(full.MatchString(name) && len(name) <= 100 && kinds[name] == 0, fault)
	return name
}

func around(full string) string {
	pieces := strings.Split(full, ".")
	return strings.Join(pieces[:len(pieces)-1], ".")
}

func (s *second) kind(j any, space string) int {
	switch x := j.(type) {
	case string:
		return s.word(x, space)
	case []any:
		at, n := s.node(api.Union)
		must(len(x) > 0, api.ErrType)
		for _, y := range x {
			n.Branches = append(n.Branches, s.kind(y, space))
		}
		seen := map[[2]int]bool{}
		for _, b := range n.Branches {
			like := [2]int{s.nodes[b].Kind, -1}
			if s.nodes[b].Name != "" {
				like[1] = b
			}
			must(!seen[like] && like[0] != api.Union, api.ErrType)
			seen[like] = true
		}
		return at
	case map[string]any:
		switch y := x["type"].(type) {
		case []any, map[string]any:
			return s.kind(y, space)
		case string:
			return s.told(y, x, space)
		}
	}
	panic(api.ErrType)
}

func (s *second) told(word string, x map[string]any, space string) int {
	keys := map[string]string{"array": "items", "map": "values"}
	if key, is := keys[word]; is {
		at, n := s.node(map[string]int{"array": api.Array, "map": api.Map}[word])
		within, is := x[key]
		must(is, api.ErrType)
		n.Items = s.kind(within, space)
		return at
	}
	kind, is := map[string]int{"record": api.Record, "error": api.Record, "enum": api.Enum, "fixed": api.Fixed}[word]
	if !is {
		return s.word(word, space)
	}
	at, n := s.node(kind)
	if given, has := x["namespace"]; has {
		space, is = given.(string)
		must(is && (space == "" || full.MatchString(space) && len(space) <= 100), api.ErrName)
	}
	name, is := x["name"].(string)
	must(is, api.ErrName)
	n.Name = whole(name, space, api.ErrName)
	_, twice := s.types[n.Name]
	must(!twice, api.ErrTwice)
	for _, alias := range list(x, "aliases") {
		n.Aliases = append(n.Aliases, whole(alias, around(n.Name), api.ErrName))
	}
	s.types[n.Name] = at
	switch kind {
	case api.Record:
		s.record(n, x)
	case api.Enum:
		symbols(n, x)
	case api.Fixed:
		size, is := x["size"].(library.Number)
		must(is, api.ErrType)
		bytes, err := strconv.ParseFloat(string(size), 64)
		must(err == nil && 0 <= bytes && bytes <= 1000, api.ErrType)
		n.Size = int(bytes)
	}
	return at
}

// list is an array of strings, that may be not there.
func list(x map[string]any, key string) (out []string) {
	given, has := x[key]
	if !has {
		return nil
	}
	all, is := given.([]any)
	must(is, api.ErrName)
	for _, y := range all {
		text, is := y.(string)
		must(is, api.ErrName)
		out = append(out, text)
	}
	return out
}

func (s *second) record(n *api.Node, x map[string]any) {
	all, is := x["fields"].([]any)
	must(is, api.ErrType)
	seen := map[string]bool{}
	for _, y := range all {
		z, is := y.(map[string]any)
		must(is, api.ErrType)
		name, is := z["name"].(string)
		must(is && simple.MatchString(name) && len(name) <= 100, api.ErrName)
		must(!seen[name], api.ErrTwice)
		seen[name] = true
		f := api.Field{Name: name, Aliases: list(z, "aliases")}
		for _, alias := range f.Aliases {
			must(simple.MatchString(alias) && len(alias) <= 100, api.ErrName)
		}
		inner, is := z["type"]
		must(is, api.ErrType)
		f.Type = s.kind(inner, around(n.Name))
		var given any
		if given, f.Has = z["default"]; f.Has {
			f.Default = normal(given)
		}
		n.Fields = append(n.Fields, f)
	}
}

// normal is what the library writes, in this project's form; objects of the texts by chance have one key at most, so that keys have no order.
func normal(given any) string {
	var out strings.Builder
	writer := library.NewEncoder(&out)
	writer.SetEscapeHTML(false)
	must(writer.Encode(given) == nil, -1)
	return strings.NewReplacer("\n", "", `\n`, `\u000a`, `\t`, `\u0009`, "-0", "0").Replace(out.String())
}

func symbols(n *api.Node, x map[string]any) {
	all, _ := x["symbols"].([]any)
	must(len(all) > 0, api.ErrType)
	seen := map[any]bool{}
	for _, y := range all {
		text, is := y.(string)
		must(is && simple.MatchString(text) && len(text) <= 100, api.ErrName)
		must(!seen[y], api.ErrTwice)
		seen[y] = true
		n.Symbols = append(n.Symbols, text)
	}
	if given, has := x["default"]; has {
		_, is := given.(string)
		must(is && seen[given], api.ErrDefault)
		n.Has, n.Default = true, given.(string)
	}
}

// chance makes texts that are nearly schemas: what it writes is wrong once in so many times.
type chance struct {
	*rand.Rand
	wrong int
}

func (c chance) pick(list ...string) string { return list[c.Intn(len(list))] }

// or is what is right, or once in a while something else.
func (c chance) or(right string, others ...string) string {
	if c.Intn(c.wrong) == 0 {
		return c.pick(append(others, "null", "1", `"9"`, "[]", "{}", `[1]`, `"int"`, `["a"]`, `""`)...)
	}
	return right
}

// members is the text of an object, its keys in any order, some of them left out once in a while.
func (c chance) members(pairs ...string) string {
	var list []string
	for i := 0; i < len(pairs); i += 2 {
		if pairs[i+1] != "" && c.Intn(2*c.wrong) > 0 {
			list = append(list, `"`+pairs[i]+`":`+pairs[i+1])
		}
	}
	c.Shuffle(len(list), func(i, j int) { list[i], list[j] = list[j], list[i] })
	return "{" + strings.Join(list, c.pick(",", " , ")) + "}"
}

func (c chance) array(n int, one func() string) string {
	var list []string
	for range n {
		list = append(list, one())
	}
	return "[" + strings.Join(list, ",") + "]"
}

func (c chance) name() string {
	return c.or(`"` + c.pick("a", "b", "c", "d", "e", "f", "g", "h", "n.a", "n.b", "n.m.c", ".a", ".d", "array", "n.int") + `"`)
}

// fresh is a name that mostly no other type has.
func (c chance) fresh() string {
	if c.Intn(3) == 0 {
		return c.name()
	}
	return `"d` + strconv.Itoa(c.Intn(500)) + `"`
}

func (c chance) maybe(text string) string {
	if c.Intn(3) > 0 {
		return ""
	}
	return text
}

func (c chance) primitive() string {
	return `"` + c.pick("null", "boolean", "int", "long", "float", "double", "bytes", "string") + `"`
}

func (c chance) kind(depth int) string {
	pick := c.Intn(14)
	if depth == 0 {
		pick = c.Intn(5)
	}
	switch pick {
	case 0, 1, 2, 3:
		return c.or(c.primitive())
	case 4:
		return c.name()
	case 5:
		return `{"type":` + c.or(c.kind(depth-1)) + "}"
	case 6:
		return c.members("type", `"array"`, "items", c.kind(depth-1), "values", c.maybe("1"))
	case 7:
		return c.members("type", `"map"`, "values", c.kind(depth-1), "name", c.maybe("1"))
	case 8, 9:
		return c.array(1+c.Intn(3), func() string { return c.kind(depth - 1) })
	case 10:
		return c.members("type", `"enum"`, "name", c.fresh(), "namespace", c.space(), "aliases", c.aliases(), "symbols", c.or(c.array(1+c.Intn(3), c.symbol)), "default", c.maybe(c.symbol()))
	case 11:
		return c.members("type", `"fixed"`, "name", c.fresh(), "namespace", c.space(), "aliases", c.aliases(), "size", c.or(c.pick("0", "2", "1000"), "-1", "1001", "9999999999999999999"))
	}
	return c.record(depth)
}

func (c chance) record(depth int) string {
	return c.members("type", c.pick(`"record"`, `"error"`), "name", c.fresh(), "namespace", c.space(), "aliases", c.aliases(), "fields", c.or(c.array(c.Intn(6), func() string { return c.field(depth) })))
}

func (c chance) space() string {
	return c.maybe(c.or(`"`+c.pick("", "n", "n.m", "x")+`"`, `"9.a"`))
}

func (c chance) aliases() string { return c.maybe(c.array(c.Intn(3), c.name)) }

func (c chance) symbol() string { return c.or(`"` + c.pick("A", "B", "C", "D") + `"`) }

func (c chance) field(depth int) string {
	name := func() string { return c.or(`"`+c.pick("a", "b", "c", "d", "e", "f", "g", "h", "int")+`"`, `"a.b"`) }
	kind := c.kind(depth - 1)
	given := ""
	if c.Intn(2) == 0 {
		given = c.pick("null", "true", "1", "-0", "2147483648", `"A"`, `"0123abef"`, `"0123456789abcdef"`, `"\n\/\t"`, "[]", "[null]", "[1,[]]", "{}", `{"a":1}`, `{"b":null}`, `""`)
	}
	return c.or(c.members("name", name(), "aliases", c.maybe(c.array(c.Intn(3), name)), "type", kind, "default", c.maybe(given)))
}

func TestAgainstSecondForm(t *testing.T) {
	c := chance{rand.New(rand.NewSource(5)), 0}
	count := map[api.Errno]int{}
	nodes := 0
	for i := range 60000 {
		c.wrong = []int{10, 100, 1000}[i%3]
		text := c.record(1 + i%6)
		if i%5 == 0 {
			text = c.kind(1 + i%6)
		}
		if _, e := json.Parse(text); e != api.OK {
			continue
		}
		want, wantFault := judge(text)
		s, e := schema.Parse(text)
		if e != wantFault || !same(s.Nodes, want) {
			t.Fatalf("P5.1: Parse(%s): %+v, error %d; want %+v, error %d", text, s.Nodes, e, want, wantFault)
		}
		count[e]++
		nodes = max(nodes, len(s.Nodes))
	}
	for _, e := range []api.Errno{api.OK, api.ErrType, api.ErrName, api.ErrTwice, api.ErrDefault} {
		if count[e] < 1000 {
			t.Errorf("of the texts by chance only %d are answered %d (all: %v)", count[e], e, count)
		}
	}
	if nodes < 20 {
		t.Errorf("no text by chance has more than %d nodes", nodes)
	}
}
