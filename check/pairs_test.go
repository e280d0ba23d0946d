package check_test

import (
	"iter"
	"reflect"
	"slices"
	"strconv"
	"testing"

	"courant/api"
	"courant/check"
)

// listed is what a sequence of pairs tells.
func listed(pairs iter.Seq2[int, int]) (out [][2]int) {
	for i, k := range pairs {
		out = append(out, [2]int{i, k})
	}
	return out
}

// places are pairs of one-digit places, as 00 13.
func places(text string) (out [][2]int) {
	for ; len(text) >= 2; text = text[min(3, len(text)):] {
		out = append(out, [2]int{int(text[0] - '0'), int(text[1] - '0')})
	}
	return out
}

func TestPairs(t *testing.T) {
	dead := record("d", `x:"d"`)
	for _, x := range []struct{ w, r, want string }{
		{`"int"`, `"int"`, "00"}, {`"int"`, `"long"`, "00"}, {`"long"`, `"int"`, "00"}, {enum("e", "A B"), enum("e", "A"), "00"}, {record("r"), record("s"), "00"},
		// Lists lead to their items, if they match.
		{array(`"int"`), array(`"long"`), "00 11"}, {array(`"long"`), array(`"int"`), "00"}, {table(enum("e", "A")), table(enum("e", "B")), "00 11"}, {array(`["int"]`), array(`"null"`), "00 11 21"}, {array(array(`"int"`)), array(array(`["null"]`)), "00 11 22"}, {array(`"int"`), table(`"int"`), "00"},
		// The writer's unions: each branch, also behind one that is not read.
		{`["null","int"]`, `"int"`, "00 10 20"}, {`["int","null","string"]`, `"boolean"`, "00 10 20 30"}, {`["int"]`, `"long"`, "00 10"},
		// The reader's: the branch, if there is one.
		{`"int"`, `["null","long","int"]`, "00 02"}, {`"int"`, `["null"]`, "00"}, {`["int","null"]`, `["null","long"]`, "00 10 12 20 21"}, {`["int","boolean","null"]`, `["null","long"]`, "00 10 12 20 30 31"}, {array(`"int"`), union(`"null"`, array(`["int"]`)), "00 02 13 14"},
		// Records: the fields of the reader's order, those that are read from one alone.
		{record("r", `a:"int"`, `b:"string"`), record("r", `b:"string"`, `a:"int"`), "00 21 12"}, {record("r", `a:"int"`, `b:"string"`), record("r", `b:"int"`, `a:"string"`), "00 21 12"}, {record("r", `a:"int"`, `b:"string"`), record("r", `c:"null"=null`, `b:"bytes"`), "00 22"}, {record("r", `a:"int"`), record("r"), "00"}, {record("r"), record("r", `a:"int"=1`), "00"},
		{record("r", `a:"int"`, `b:"int"`), record("r", `c:"null"`, `b:"int"`, `d:"null"`, `a:"int"`), "00 22 14"}, {record("r", `a:"int"`), record("r", `a:"long"`, `b|a:"null"`, `c|x|a:["int"]`), "00 11 12 13 14"}, {record("r", `a:"int"`), record("s", `a:"int"`), "00"},
		// In depth: all that the first one leads to, ahead of the second one.
		{record("r", "a:"+record("s", `x:"int"`, `y:"int"`), "b:"+array(`"int"`)), record("r", "a:"+record("s", `y:"int"`, `x:"int"`), "b:"+array(`"int"`)), "00 11 32 23 44 55"}, {record("r", "a:"+array(array(`"int"`)), `b:"int"`), record("r", `b:"int"`, "a:"+array(array(`"int"`))), "00 41 12 23 34"}, {union(array(`"int"`), `"null"`), union(`"null"`, array(`"int"`)), "00 10 12 23 30 31"},
		// Each once, where it is come to first.
		{record("r", "a:"+record("s", `x:"int"`), `b:"s"`), record("r", "a:"+record("s", `x:"int"`), `b:"s"`), "00 11 22"}, {record("r", `a:"int"`, `b:"r"`), record("r", `a:"int"`, `b:"r"`), ""}, {record("r", `n:["null","r"]`, `a:"int"`), record("r", `a:"int"`, `n:["null","r"]`), "00 31 12 22 23 02"},
		{record("r", "a:"+array(record("s", `x:"int"`)), `b:"s"`), record("r", `b|a:`+record("s", `x:"int"`), "a:"+array(`"s"`)), "00 21 32 13"}, {record("r", "b:"+record("s", `x:["null","r"]`), `a:"s"`), record("r", "a:"+record("s", `x:["null","r"]`), `b:"s"`), "00 11 22 32 33 02"}, {record("r", "a:"+record("s", "x:"+array(`"r"`)), `b:"s"`), record("r", "a:"+record("s"), "b:"+record("n.s", "x:"+array(`".r"`))), "00 11 12 23"},
		{record("n.a", "v:"+union(`"null"`, record("m.a", `v:["null","n.a"]`))), record("a", `v:["null","a"]`), "00 11 21 22 31 30 41 51 52 01"}, {record("a", `v:["null","a"]`), record("n.a", "v:"+union(`"null"`, record("m.a", `v:["null","n.a"]`))), "00 11 21 22 01 03 14 24 25 04"},
		// Of those that are live alone.
		{dead, dead, ""}, {dead, `"int"`, ""}, {union(dead), `"int"`, ""}, {array(dead), array(dead), "00"}, {array(dead), array(`"int"`), "00"}, {table(dead), table(union(dead)), "00"}, {union(dead, `"int"`), `"int"`, "00 20"}, {union(`"int"`, dead, `"null"`), `"int"`, "00 10 30"}, {record("r", "a:"+array(dead), `b:"int"`), record("r", "a:"+array(dead), `b:"int"`), "00 11 33"}, {record("r", "a:"+union(dead, `"int"`)), record("r", "a:"+union(`"int"`, dead)), "00 11 31 32"}, {record("r", `a:"int"`, "b:"+dead), record("r", `a:"int"`), ""}, {`"int"`, dead, "00"}, {record("d", `x:["null","d"]`), dead, "00 10 20"},
	} {
		got := listed(check.Pairs(parsed(t, x.w), parsed(t, x.r)))
		if !reflect.DeepEqual(got, places(x.want)) {
			t.Errorf("P12.1: Pairs of %s and %s: %v; want %s", x.w, x.r, got, x.want)
		}
	}
	whole := parsed(t, `"int"`)
	for _, x := range [][2]api.Schema{{}, {whole}, {{}, whole}, {parsed(t, dead)}} {
		if got := listed(check.Pairs(x[0], x[1])); len(got) > 0 {
			t.Errorf("P12.1: pairs of no nodes: %v", got)
		}
	}
}

// long is two right schemas with pairs of all sorts.
func long(t *testing.T) (w, r api.Schema) {
	t.Helper()
	build := func(name, kind string) api.Schema {
		return parsed(t, record(name, `next:["null","`+name+`"]`, "e:"+enum("n.e|e", "A B=A"), "of:"+table(union(array(`"`+name+`"`), kind, fixed("f", "3"))), "v:"+record("v|w", "a|b:"+kind, "c:"+array(record("d", `x:"d"`)))))
	}
	return build("a", `"int"`), build("n.a", `"long"`)
}

// TestPairsEnd: it is told to end behind each of them, and asks no more then.
func TestPairsEnd(t *testing.T) {
	w, r := long(t)
	pairs := check.Pairs(w, r)
	all := listed(pairs)
	if len(all) < 9 {
		t.Fatalf("P12.1: %d pairs", len(all))
	}
	for n := range all {
		var got [][2]int
		pairs(func(i, k int) bool {
			got = append(got, [2]int{i, k})
			return len(got) <= n
		})
		if !slices.Equal(got, all[:n+1]) {
			t.Errorf("P12.1: Pairs, ended behind %d: %v", n+1, got)
		}
	}
}

// TestPairsAgain (R1): they may be ranged over as often as one likes, also while they are.
func TestPairsAgain(t *testing.T) {
	w, r := long(t)
	pairs := check.Pairs(w, r)
	all, n := listed(pairs), 0
	for i, k := range pairs {
		if all[n] != [2]int{i, k} {
			t.Errorf("R1: the pair %d is %d, %d, while others range; want %v", n, i, k, all[n])
		}
		if n++; !slices.Equal(listed(pairs), all) {
			t.Fatal("R1: pairs that are ranged over again are others")
		}
		for range pairs {
			break
		}
	}
	if n != len(all) {
		t.Errorf("R1: %d pairs, while others range; want %d", n, len(all))
	}
}

// roomy is s once more, with room behind the ends of its lists, where something stands.
func roomy(s api.Schema) api.Schema {
	extra := api.Field{Name: "behind", Aliases: []string{"behind"}, Type: 99}
	out := make([]api.Node, 0, len(s.Nodes)+1)
	for _, n := range s.Nodes {
		n.Aliases = append(slices.Clone(n.Aliases), "behind")[:len(n.Aliases)]
		n.Symbols = append(slices.Clone(n.Symbols), "behind")[:len(n.Symbols)]
		n.Branches = append(slices.Clone(n.Branches), 99)[:len(n.Branches)]
		n.Fields = append(slices.Clone(n.Fields), extra)[:len(n.Fields)]
		for i := range n.Fields {
			f := &n.Fields[i]
			f.Aliases = append(slices.Clone(f.Aliases), "behind")[:len(f.Aliases)]
		}
		out = append(out, n)
	}
	return api.Schema{Nodes: append(out, api.Node{Kind: 99})[:len(out)]}
}

// whole is all of s, with the room behind the ends.
func whole(s api.Schema) (out []any) {
	for _, n := range s.Nodes[:cap(s.Nodes)] {
		out = append(out, n, n.Aliases[:cap(n.Aliases)], n.Symbols[:cap(n.Symbols)], n.Branches[:cap(n.Branches)])
		for _, f := range n.Fields[:cap(n.Fields)] {
			out = append(out, f, f.Aliases[:cap(f.Aliases)])
		}
	}
	return out
}

// scribble writes over all of s.
func scribble(s api.Schema) {
	for i := range s.Nodes {
		n := &s.Nodes[i]
		for k := range n.Fields {
			clear(n.Fields[k].Aliases)
		}
		clear(n.Aliases)
		clear(n.Symbols)
		clear(n.Branches)
		clear(n.Fields)
	}
	clear(s.Nodes)
}

// TestMemory: what is handed in is not changed, nor kept (R3), and what is told is what was there (R1).
func TestMemory(t *testing.T) {
	w, r := long(t)
	own, other := roomy(w), roomy(r)
	if !check.Reads(own, other) || !slices.Equal(listed(check.Pairs(own, other)), listed(check.Pairs(w, r))) {
		t.Error("R3: the room behind the ends plays a part")
	}
	if !reflect.DeepEqual(whole(own), whole(roomy(w))) || !reflect.DeepEqual(whole(other), whole(roomy(r))) {
		t.Error("R3: what was handed in is changed")
	}
	want, pairs := listed(check.Pairs(w, r)), check.Pairs(own, other)
	begun := check.Pairs(own, other)
	n := 0
	for range begun {
		if n++; n == 3 {
			break
		}
	}
	for i, k := range begun {
		scribble(own)
		scribble(other)
		if want[0] != [2]int{i, k} {
			t.Errorf("R1: the pair %d, %d is told; want %v", i, k, want[0])
		}
		want = want[1:]
	}
	if len(want) > 0 {
		t.Errorf("R1: the pairs %v are not told", want)
	}
	if want = listed(check.Pairs(w, r)); !slices.Equal(listed(pairs), want) {
		t.Error("R1: what is told is what is there later on")
	}
}

// round is so many records, each with a union of the next one and null as its field, the last one with the first one.
func round(many int) (s api.Schema) {
	for i := range many {
		next := 2 * ((i + 1) % many)
		s.Nodes = append(s.Nodes, api.Node{Kind: api.Record, Name: "n" + strconv.Itoa(i) + ".r", Fields: []api.Field{{Name: "f", Type: 2*i + 1}}}, api.Node{Kind: api.Union, Branches: []int{next, 2 * many}})
	}
	s.Nodes = append(s.Nodes, api.Node{Kind: api.Null})
	return s
}

// TestFar: pairs that lead on and on, farther than calls may be nested, come to an end.
func TestFar(t *testing.T) {
	for _, x := range [][2]int{{1, 1}, {1, 2}, {2, 1}, {5, 7}, {101, 103}, {1, 100000}, {100000, 1}, {3, 100000}} {
		w, r := round(x[0]), round(x[1])
		if !check.Reads(w, r) {
			t.Errorf("P12.1: Reads of what goes round behind %v", x)
		}
		// Of the records, of their unions, and of a record with a union; null with each union, and with null.
		want, n := 3*x[0]*x[1]+x[1]+1, 0
		for range check.Pairs(w, r) {
			n++
		}
		if n != want {
			t.Errorf("P12.1: %d pairs of what goes round behind %v; want %d", n, x, want)
		}
		if r.Nodes[2*x[1]].Kind = api.Int; check.Reads(w, r) {
			t.Errorf("P12.1: Reads of what goes round behind %v, though the end is not read", x)
		}
	}
}
