package finger_test

import (
	"bytes"
	"hash/crc64"
	"math/rand"
	"strings"
	"testing"

	"courant/api"
	"courant/canon"
	"courant/finger"
	"courant/schema"
)

const none = 0xc15d213aa4d7a795 // the print of no bytes

// library is the library's table of the same division.
func library() *crc64.Table { return crc64.MakeTable(none) }

// second is a print by the library, which turns all bits ahead and behind.
func second(b []byte) uint64 { return ^crc64.Update(^uint64(none), library(), b) }

// third is a print without a table, bit by bit.
func third(b []byte) uint64 {
	sum := uint64(none)
	for _, c := range b {
		sum ^= uint64(c)
		for range 8 {
			sum = sum>>1 ^ (sum&1)*none
		}
	}
	return sum
}

func parse(t *testing.T, text string) api.Schema {
	t.Helper()
	s, e := schema.Parse(text)
	if e != api.OK {
		t.Fatalf("Parse(%.200s): error %d", text, e)
	}
	return s
}

func TestTable(t *testing.T) {
	table := finger.Table()
	for at, want := range library() {
		if table[at] != want {
			t.Errorf("P7.1: Table at %d: %x; want %x", at, table[at], want)
		}
	}
	known := map[int]uint64{0: 0, 64: none>>1 ^ none, 128: none}
	for at, want := range known {
		if table[at] != want {
			t.Errorf("P7.1: Table at %d: %x; want %x", at, table[at], want)
		}
	}
	for i := range 256 { // shifting and adding do not mind one another
		if i > 0 && table[i] != table[i&(i-1)]^table[i&-i] {
			t.Errorf("P7.1: Table at %d is not what its bits are", i)
		}
	}
}

// TestTableIsNew: who writes into a table changes neither the next one nor a print.
func TestTableIsNew(t *testing.T) {
	table := finger.Table()
	clear(table[:])
	if finger.Table()[128] != none || finger.Print64([]byte("a")) != third([]byte("a")) {
		t.Error("R3: a table that was written into is still asked")
	}
}

func TestPrint(t *testing.T) {
	for _, b := range [][]byte{nil, {}} {
		if got := finger.Print64(b); got != none {
			t.Errorf("P7.1: Print64 of nothing: %x; want %x", got, uint64(none))
		}
	}
	if got := int64(finger.Print64([]byte("[]"))); got != -1241056759729112623 { // as Avro tells it
		t.Errorf("P7.1: Print64 of []: %d", got)
	}
	hold := func(b []byte) {
		t.Helper()
		got := finger.Print64(b)
		if want := third(b); got != want || second(b) != want {
			t.Errorf("P7.1: Print64(%.100x): %x; want %x", b, got, want)
		}
	}
	for i := range 256 {
		hold([]byte{byte(i)})
		hold([]byte{byte(i), byte(255 - i)})
		hold(bytes.Repeat([]byte{byte(i)}, 9))
	}
	r := rand.New(rand.NewSource(7))
	for range 2000 {
		b := make([]byte, r.Intn(200))
		r.Read(b)
		hold(b)
	}
	long := make([]byte, 1<<20)
	r.Read(long)
	hold(long)
}

// TestArgument: what is handed in is not changed, and what lies behind its end does not count.
func TestArgument(t *testing.T) {
	b := []byte("abcdef")
	if got := finger.Print64(b[1:3]); got != third([]byte("bc")) || string(b) != "abcdef" {
		t.Errorf("R3: Print64 of bc: %x, among %s", got, b)
	}
	b[3] = 'x'
	if got := finger.Print64(b[1:3:3]); got != third([]byte("bc")) {
		t.Errorf("R2: Print64 of bc: %x", got)
	}
}

// known are schemas with their prints as Avro tells them.
func known() map[string]int64 {
	return map[string]int64{
		`"null"`:              7195948357588979594,
		`"boolean"`:           -6970731678124411036,
		`"int"`:               8247732601305521295,
		`{"type":"int"}`:      8247732601305521295,
		`"long"`:              -3434872931120570953,
		`"float"`:             5583340709985441680,
		`"double"`:            -8181574048448539266,
		`"bytes"`:             5746618253357095269,
		`"string"`:            -8142146995180207161,
		`["int"]`:             -5232228896498058493,
		`["int" , "boolean"]`: 5392556393470105090,
		`{"fields":[], "type":"record", "name":"foo"}`:                                                                -4824392279771201922,
		`{"fields":[], "type":"record", "name":"foo", "doc":"Useful info", "aliases":["bar"]}`:                        -4824392279771201922,
		`{"fields":[], "type":"record", "name":"foo", "namespace":"x.y"}`:                                             5916914534497305771,
		`{"fields":[], "type":"record", "name":"a.b.foo", "namespace":"x.y"}`:                                         -4616218487480524110,
		`{"fields":[{"type":{"type":"boolean"}, "name":"f1", "default":true}], "type":"record", "name":"foo"}`:        7843277075252814651,
		`{"type":"enum", "name":"foo", "symbols":["A1"]}`:                                                             -6342190197741309591,
		`{"namespace":"x.y.z", "type":"enum", "name":"foo", "doc":"foo bar", "symbols":["A1", "A2"]}`:                 -4448647247586288245,
		`{"name":"foo", "type":"fixed", "size":15}`:                                                                   1756455273707447556,
		`{"namespace":"x.y.z", "type":"fixed", "name":"foo", "size":32}`:                                              -3064184465700546786,
		`{"items":{"type":"null"}, "type":"array"}`:                                                                   -589620603366471059,
		`{"values":"string", "type":"map"}`:                                                                           -8732877298790414990,
		`{"name":"PigValue","type":"record","fields":[{"name":"value", "type":["null", "int", "long", "PigValue"]}]}`: -1759257747318642341,
	}
}

func TestOf(t *testing.T) {
	for text, want := range known() {
		s := parse(t, text)
		if got := finger.Of(s); got != uint64(want) || got != third([]byte(canon.Canonical(s))) {
			t.Errorf("P7.1: Of(%s): %d; want %d", text, int64(got), want)
		}
	}
}

// TestOfAnything: what is no schema has a print, too: that of its text, or of none.
func TestOfAnything(t *testing.T) {
	node := func(n ...api.Node) api.Schema { return api.Schema{Nodes: n} }
	rows := []struct {
		s    api.Schema
		text string
	}{
		{node(), ""},
		{node(api.Node{}), ""},
		{node(api.Node{Kind: 99}), ""},
		{node(api.Node{Kind: api.Array, Items: -1}), ""},
		{node(api.Node{Kind: api.Array}), ""}, // leads back to itself
		{node(api.Node{Kind: api.Fixed, Name: strings.Repeat("a", api.MaxSchema)}), ""},
		{node(api.Node{Kind: api.Union}), "[]"},
		{node(api.Node{Kind: api.Fixed, Name: "\xff", Size: -1}), "{\"name\":\"\xff\",\"type\":\"fixed\",\"size\":0}"},
		{node(api.Node{Kind: api.Record, Name: "a", Fields: []api.Field{{Name: "b", Type: 0}}}), `{"name":"a","type":"record","fields":[{"name":"b","type":"a"}]}`},
	}
	for _, x := range rows {
		if got := finger.Of(x.s); got != third([]byte(x.text)) {
			t.Errorf("P7.1: Of(%.200s): %x; want the print of %q", canon.Canonical(x.s), got, x.text)
		}
	}
}

// TestTurnedByte: what is turned at one place, whichever and however, has another print.
func TestTurnedByte(t *testing.T) {
	for text := range known() {
		b := []byte(text)
		was := finger.Print64(b)
		for at := range b {
			c := b[at]
			for turn := 1; turn < 256; turn += 1 + at%7 {
				b[at] = c ^ byte(turn)
				if finger.Print64(b) == was {
					t.Fatalf("What follows: %q has the print of %q", b, text)
				}
			}
			b[at] = c
		}
	}
}

// TestTurnedSchema: of what counts each thing is seen; of the rest nothing is.
func TestTurnedSchema(t *testing.T) {
	text := `{"type":"record","name":"n.a","aliases":["b"],"fields":[{"name":"f","type":["null","int"],"default":null},{"name":"e","type":{"type":"enum","name":"E","symbols":["A","B"],"default":"A"},"aliases":["g"]},{"name":"x","type":{"type":"fixed","name":"F","size":3}},{"name":"l","type":{"type":"array","items":"long"}},{"name":"m","type":{"type":"map","values":"n.a"}}]}`
	was := finger.Of(parse(t, text))
	count := [][2]string{{`"n.a"`, `"n.b"`}, {`"f"`, `"h"`}, {`["null","int"]`, `["null","long"]`}, {`"E"`, `"G"`}, {`["A","B"]`, `["A","C"]`}, {`["A","B"]`, `["A"]`}, {`"F"`, `"H"`}, {`:3`, `:4`}, {`"long"`, `"int"`}, {`"array","items"`, `"map","values"`}, {`:"n.a"}}`, `:"E"}}`}}
	for _, x := range count {
		turned := strings.ReplaceAll(text, x[0], x[1])
		if turned == text || finger.Of(parse(t, turned)) == was {
			t.Errorf("What follows: %s for %s: the print stays", x[1], x[0])
		}
	}
	rest := [][2]string{{`["b"]`, `["c"]`}, {`,"aliases":["g"]`, ``}, {`,"default":null`, ``}, {`"default":"A"`, `"default":"B"`}, {`"size"`, `"doc":"d","size"`}, {`:`, ` : `}, {`"name":"n.a"`, `"namespace":"n","name":"a"`}}
	for _, x := range rest {
		turned := strings.ReplaceAll(text, x[0], x[1])
		if turned == text || finger.Of(parse(t, turned)) != was {
			t.Errorf("P7.1: %s for %s: another print", x[1], x[0])
		}
	}
}
