package register_test

import (
	"math"
	"reflect"
	"slices"
	"strconv"
	"strings"
	"testing"

	"courant/api"
	"courant/canon"
	"courant/register"
	"courant/schema"
)

// Short words for what the rows below are made of.
type (
	reg  = api.Registry
	subj = api.Subject
	ver  = api.Version
	op   = api.RegOp
)

const (
	intText  = `"int"`
	longText = `"long"`
	wordText = `"string"`
)

// enter is the operation that registers a text.
func enter(name, text string) op { return op{Kind: api.RegRegister, Name: name, Text: text} }

// setLevel, hide and remove are the other operations.
func setLevel(name string, n int) op { return op{Kind: api.RegLevel, Name: name, N: n} }
func hide(name string, n int) op     { return op{Kind: api.RegDelete, Name: name, N: n} }
func remove(name string, n int) op   { return op{Kind: api.RegRemove, Name: name, N: n} }

// bare is r such that no list and an empty one are the same.
func bare(r reg) reg {
	r.Schemas = append([]string{}, r.Schemas...)
	r.Subjects = append([]subj{}, r.Subjects...)
	for at := range r.Subjects {
		r.Subjects[at].Versions = append([]ver{}, r.Subjects[at].Versions...)
	}
	return r
}

// same tells whether two registries are the same (R9).
func same(a, b reg) bool { return reflect.DeepEqual(bare(a), bare(b)) }

// answer is what Do tells beside the registry.
type answer struct {
	fault api.Errno
	n, id int
}

// do does an operation, and holds what must be true of each one against it.
func do(t *testing.T, r reg, o op) (reg, answer) {
	t.Helper()
	ahead := bare(r)
	out, n, id, fault := register.Do(r, o)
	if !same(r, ahead) {
		t.Errorf("R3: %+v changed what was handed in", o)
	}
	if fault != api.OK && (!same(out, ahead) || n != 0 || id != 0) {
		t.Errorf("P14.2: %+v: error %d, but %+v, %d, %d; want it as it was, 0, 0", o, fault, out, n, id)
	}
	if register.Right(r) && !register.Right(out) {
		t.Errorf("What follows: %+v leaves one that is not right: %+v", o, out)
	}
	return out, answer{fault, n, id}
}

// step is an operation and what it is to be answered.
type step struct {
	o    op
	want answer
}

// history does operations one behind the other.
func history(t *testing.T, r reg, steps ...step) reg {
	t.Helper()
	for at, x := range steps {
		out, got := do(t, r, x.o)
		if got != x.want {
			t.Errorf("P14.2: the operation %d, %+v: %+v; want %+v", at, x.o, got, x.want)
		}
		r = out
	}
	return r
}

// fixed is the text of a Fixed of that size; no two of them are read by one another.
func fixed(size int) string { return `{"type":"fixed","name":".f","size":` + strconv.Itoa(size) + `}` }

// record is the text of a record with these fields, in the one form.
func record(fields string) string { return `{"type":"record","name":".r","fields":[` + fields + `]}` }

// full is a registry with MaxSubjects subjects, all of them made by their levels, s00, s01, ..
func full(t *testing.T) reg {
	t.Helper()
	r := register.New()
	for k := range api.MaxSubjects {
		r = history(t, r, step{setLevel("s"+string([]byte{byte('0' + k/10), byte('0' + k%10)}), api.LevelNone), answer{}})
	}
	if len(r.Subjects) != api.MaxSubjects {
		t.Fatalf("%d subjects", len(r.Subjects))
	}
	return r
}

// long is a registry whose subject a has MaxVersions versions, at LevelNone.
func long(t *testing.T) reg {
	t.Helper()
	r := history(t, register.New(), step{setLevel("a", api.LevelNone), answer{}})
	for k := range api.MaxVersions {
		r = history(t, r, step{enter("a", fixed(k)), answer{api.OK, k + 1, k + 1}})
	}
	return r
}

func TestNew(t *testing.T) {
	r := register.New()
	if !same(r, reg{Level: api.LevelBackward}) || !register.Right(r) {
		t.Errorf("P14.1: %+v", r)
	}
	if register.Level(r, "a") != api.LevelBackward || register.Level(r, "") != api.LevelBackward {
		t.Error("P14.1: the level of a new registry")
	}
}

// some is a right registry: of subjects with and without levels, and versions.
func some() reg {
	return reg{Level: api.LevelFull, Schemas: []string{intText, longText, wordText, `"null"`}, Subjects: []subj{
		{Name: "A.b", Level: api.LevelNone},
		{Name: "a", Level: -1, Versions: []ver{{N: 2, ID: 3, Gone: true}, {N: 3, ID: 1}, {N: 5, ID: 2}, {N: 9, ID: 1, Gone: true}}},
		{Name: "a.b", Level: api.LevelForwardAll, Versions: []ver{{N: 1, ID: 1, Gone: true}, {N: 2, ID: 1, Gone: true}}},
		{Name: "b", Level: -1, Versions: []ver{{N: 1, ID: 2}}},
	}}
}

func TestFind(t *testing.T) {
	r := some()
	for at, s := range r.Subjects {
		if got, is := register.Find(r, s.Name); !is || !reflect.DeepEqual(got, s) {
			t.Errorf("P14.1: Find of the subject %d: %+v, %v", at, got, is)
		}
	}
	for _, name := range []string{"", "A", "A.", "B", "a.", "a.a", "a.b.c", "aa", "ba", "z", "\x00", "\xff"} {
		if got, is := register.Find(r, name); is || !reflect.DeepEqual(got, subj{}) {
			t.Errorf("P14.1: Find of %q: %+v, %v", name, got, is)
		}
		if got, is := register.Find(register.New(), name); is || !reflect.DeepEqual(got, subj{}) {
			t.Errorf("P14.1: Find of %q in a new one: %+v, %v", name, got, is)
		}
	}
}

func TestLevel(t *testing.T) {
	r := some()
	for name, want := range map[string]int{"A.b": api.LevelNone, "a": api.LevelFull, "a.b": api.LevelForwardAll, "b": api.LevelFull, "": api.LevelFull, "c": api.LevelFull, "A": api.LevelFull, "a.": api.LevelFull} {
		if got := register.Level(r, name); got != want {
			t.Errorf("P14.1: Level of %q: %d; want %d", name, got, want)
		}
	}
}

func TestLook(t *testing.T) {
	r := some()
	for _, x := range []struct {
		name string
		n    int
		id   int
		text string
	}{{"a", 3, 1, intText}, {"a", 5, 2, longText}, {"a", 0, 2, longText}, {"b", 1, 2, longText}, {"b", 0, 2, longText}} {
		if id, text, fault := register.Look(r, x.name, x.n); id != x.id || text != x.text || fault != api.OK {
			t.Errorf("P14.1: Look of %q, %d: %d, %s, error %d", x.name, x.n, id, text, fault)
		}
	}
	for _, x := range []struct {
		name string
		n    int
	}{{"a", 2}, {"a", 9}, {"a", 1}, {"a", 4}, {"a", 10}, {"a", -1}, {"a", math.MinInt}, {"a", math.MaxInt}, {"A.b", 0}, {"A.b", 1}, {"a.b", 0}, {"a.b", 1}, {"a.b", 2}, {"b", 2}, {"b", -1}, {"", 0}, {"c", 0}, {"c", 1}, {"A", 0}} {
		if id, text, fault := register.Look(r, x.name, x.n); id != 0 || text != "" || fault != api.ErrNone {
			t.Errorf("P14.1: Look of %q, %d: %d, %q, error %d; want error 8", x.name, x.n, id, text, fault)
		}
	}
}

// gone is a version that is deleted.
func gone(n, id int) ver { return ver{N: n, ID: id, Gone: true} }

// many are so many versions, of rising numbers, all with the ID 1, deleted ones.
func many(size int) []ver {
	var out []ver
	for k := range size {
		out = append(out, gone(k+1, 1))
	}
	return out
}

// names are so many subjects, by rising names.
func names(size int) []subj {
	var out []subj
	for k := range size {
		out = append(out, subj{Name: "s" + strconv.Itoa(100+k), Level: api.LevelFull})
	}
	return out
}

// with is a registry of a subject with these versions.
func with(level int, list ...ver) reg {
	return reg{Schemas: []string{intText, longText, wordText}, Subjects: []subj{{Name: "a", Level: level, Versions: list}}}
}

// called are subjects of these names.
func called(names ...string) reg {
	var out reg
	for _, name := range names {
		out.Subjects = append(out.Subjects, subj{Name: name})
	}
	return out
}

func TestRight(t *testing.T) {
	right := []reg{{}, {Level: api.LevelFullAll}, some(), {Schemas: []string{intText}}, {Schemas: []string{longText, intText, fixed(0), fixed(1), record("")}},
		{Subjects: names(api.MaxSubjects)}, called("a"), called("A", "Z", "_", "a", "aa", "ab", "b"), called("a", "a.b", "a0", "a_"), called(strings.Repeat("a", api.MaxName)),
		with(0), with(6), with(-1, ver{N: 1, ID: 1}), with(3, ver{N: 1, ID: 3}), with(-1, ver{N: 1, ID: 1, Gone: true}), with(-1, ver{N: 7, ID: 2}), with(-1, ver{N: math.MaxInt, ID: 2}),
		with(-1, ver{N: 1, ID: 3}, ver{N: 2, ID: 2}, ver{N: 3, ID: 1}), with(-1, ver{N: 4, ID: 3}, ver{N: 6, ID: 2}, ver{N: 100, ID: 1, Gone: true}),
		with(-1, ver{N: 1, ID: 1, Gone: true}, ver{N: 2, ID: 1}), with(-1, ver{N: 1, ID: 1}, ver{N: 2, ID: 1, Gone: true}), with(-1, ver{N: 1, ID: 1, Gone: true}, ver{N: 2, ID: 1, Gone: true}, ver{N: 3, ID: 1}),
		with(-1, many(api.MaxVersions)...),
		{Schemas: []string{intText}, Subjects: []subj{{Name: "a", Level: -1, Versions: []ver{{N: 1, ID: 1}}}, {Name: "b", Level: -1, Versions: []ver{{N: 1, ID: 1}}}}},
	}
	for at, r := range right {
		if !register.Right(r) {
			t.Errorf("P14.1: the row %d is not right: %+v", at, r)
		}
	}
	wrong := []reg{{Level: -1}, {Level: 7}, {Level: math.MaxInt}, {Level: math.MinInt},
		{Schemas: []string{""}}, {Schemas: []string{"x"}}, {Schemas: []string{"\"int\" "}}, {Schemas: []string{`{"type":"int"}`}}, {Schemas: []string{`"x"`}}, {Schemas: []string{intText, longText, ""}}, {Schemas: []string{intText, longText, intText}}, {Schemas: []string{record(""), record("")}},
		{Schemas: []string{`{"type":"fixed","name":"f","size":1}`}}, {Schemas: []string{`{"name":".f","type":"fixed","size":1}`}}, {Schemas: []string{`{"type":"fixed","name":".f","size":1001}`}}, {Schemas: []string{record(`{"name":"x","type":"int","default": 1}`)}}, {Schemas: []string{record(`{"name":"x","type":"int","default":null}`)}},
		{Subjects: names(api.MaxSubjects + 1)}, called(""), called("a."), called(".a"), called("0"), called("a-b"), called("a", "a"), called("b", "a"), called("a", "c", "b"), called("a", "B"), called("a_", "a0"), called("a", ""), called(strings.Repeat("a", api.MaxName+1)),
		with(-1), with(-2), with(7), with(-2, ver{N: 1, ID: 1}), with(7, ver{N: 1, ID: 1}),
		with(-1, ver{N: 0, ID: 1}), with(-1, ver{N: -1, ID: 1}), with(-1, ver{N: math.MinInt, ID: 1}), with(-1, ver{N: 1, ID: 1}, ver{N: 1, ID: 2}), with(-1, ver{N: 2, ID: 1}, ver{N: 1, ID: 2}), with(-1, ver{N: 2, ID: 1}, ver{N: 3, ID: 2}, ver{N: 1, ID: 3}), with(-1, ver{N: 2, ID: 1}, ver{N: 3, ID: 2}, ver{N: 3, ID: 3}), with(-1, ver{N: 0, ID: 1, Gone: true}, ver{N: 1, ID: 1}),
		with(-1, ver{N: 1, ID: 0}), with(-1, ver{N: 1, ID: 4}), with(-1, ver{N: 1, ID: -1}), with(-1, ver{N: 1, ID: 4, Gone: true}), with(-1, ver{N: 1, ID: 0, Gone: true}, ver{N: 2, ID: 1}), with(-1, ver{N: 1, ID: 1}, ver{N: 2, ID: math.MaxInt}), with(-1, ver{N: 1, ID: math.MinInt}), with(1, ver{N: 1}),
		with(-1, ver{N: 1, ID: 2}, ver{N: 2, ID: 2}), with(-1, ver{N: 1, ID: 2}, ver{N: 2, ID: 1}, ver{N: 3, ID: 2}), with(-1, ver{N: 1, ID: 1, Gone: true}, ver{N: 2, ID: 1}, ver{N: 3, ID: 1}), with(-1, ver{N: 1, ID: 1}, ver{N: 2, ID: 1, Gone: true}, ver{N: 3, ID: 1}), with(3, ver{N: 1, ID: 3}, ver{N: 2, ID: 2}, ver{N: 3, ID: 1}, ver{N: 4, ID: 2}),
		with(-1, many(api.MaxVersions+1)...), with(3, many(api.MaxVersions+1)...),
		{Subjects: []subj{{Name: "a", Versions: []ver{{N: 1, ID: 1}}}}},
	}
	for at, r := range wrong {
		if register.Right(r) {
			t.Errorf("P14.1: the odd row %d is right: %+v", at, r)
		}
	}
	// What stands behind others is asked, too.
	for at, bad := range []func(r *reg){func(r *reg) { r.Level = 9 }, func(r *reg) { r.Schemas[3] = "" }, func(r *reg) { r.Subjects[3].Name = "9" }, func(r *reg) { r.Subjects[3].Name = "a.b" }, func(r *reg) { r.Subjects[3].Level = 7 }, func(r *reg) { r.Subjects[3].Versions = nil }, func(r *reg) { r.Subjects[3].Versions[0].ID = 5 }, func(r *reg) { r.Subjects[1].Versions[3].N = 5 }, func(r *reg) { r.Subjects[2].Versions[1].N = 1 }, func(r *reg) { r.Subjects[1].Versions[2].ID = 1 }} {
		r := some()
		if bad(&r); register.Right(r) {
			t.Errorf("P14.1: the fault %d is not seen", at)
		}
	}
}

// spread is a schema's text whose Print is longer than itself by short names being written whole: of a record with so many fields, of which each has itself as its type, in a long namespace.
func spread(fields, pad int) string {
	var list []string
	for k := range fields {
		list = append(list, `{"name":"f`+strconv.Itoa(k)+`","type":"r"}`)
	}
	list = append(list, `{"name":"`+strings.Repeat("p", pad)+`","type":"int"}`)
	return `{"type":"record","name":"r","namespace":"` + strings.Repeat("n", 90) + `","fields":[` + strings.Join(list, ",") + `]}`
}

// TestPrintLimit: a text that is right, but is too long in its one form.
func TestPrintLimit(t *testing.T) {
	edge, over := "", ""
	for fields := 100; fields < 200 && over == ""; fields++ {
		for pad := 1; pad <= api.MaxName; pad++ {
			text := spread(fields, pad)
			s, fault := schema.Parse(text)
			if fault != api.OK || len(text) > api.MaxSchema {
				t.Fatalf("error %d of the text of %d bytes", fault, len(text))
			}
			if len(canon.Print(s)) == api.MaxSchema && pad < api.MaxName {
				edge, over = text, spread(fields, pad+1)
			}
		}
	}
	if edge == "" || over == "" {
		t.Fatal("no text whose Print has just MaxSchema bytes")
	}
	r := history(t, register.New(), step{enter("a", over), answer{api.ErrLimit, 0, 0}}, step{enter("a", intText), answer{api.OK, 1, 1}}, step{enter("a", over), answer{api.ErrLimit, 0, 0}}, step{enter("b", edge), answer{api.OK, 1, 2}}, step{enter("a", edge), answer{api.ErrLevel, 0, 0}})
	if len(r.Schemas[1]) != api.MaxSchema {
		t.Errorf("P14.2: the text has %d bytes", len(r.Schemas[1]))
	}
	if _, fault := schema.Parse(strings.Repeat(" ", api.MaxSchema) + intText); fault != api.ErrLimit {
		t.Fatalf("error %d", fault)
	}
	history(t, r, step{enter("a", strings.Repeat(" ", api.MaxSchema)+intText), answer{api.ErrLimit, 0, 0}})
}

func TestRegister(t *testing.T) {
	r := history(t, register.New(),
		step{enter("a", intText), answer{api.OK, 1, 1}}, step{enter("a", longText), answer{api.OK, 2, 2}}, step{enter("a", intText), answer{api.OK, 1, 1}}, // the example
		step{enter("a", " {\"type\" : \"long\", \"doc\": 1} "), answer{api.OK, 2, 2}}, // the same schema, otherwise written
		step{enter("b.c", longText), answer{api.OK, 1, 2}},                            // an ID is of all subjects
		step{enter("b", wordText), answer{api.OK, 1, 3}}, step{enter("B", wordText), answer{api.OK, 1, 3}},
		step{enter("b", `"bytes"`), answer{api.OK, 2, 4}}, step{enter("b", intText), answer{api.ErrLevel, 0, 0}},
	)
	want := reg{Level: api.LevelBackward, Schemas: []string{intText, longText, wordText, `"bytes"`}, Subjects: []subj{{Name: "B", Level: -1, Versions: []ver{{N: 1, ID: 3}}}, {Name: "a", Level: -1, Versions: []ver{{N: 1, ID: 1}, {N: 2, ID: 2}}}, {Name: "b", Level: -1, Versions: []ver{{N: 1, ID: 3}, {N: 2, ID: 4}}}, {Name: "b.c", Level: -1, Versions: []ver{{N: 1, ID: 2}}}}}
	if !same(r, want) {
		t.Errorf("P14.2: %+v", r)
	}
	out, _ := do(t, r, enter("a", intText))
	if !same(out, r) {
		t.Errorf("P14.2: what is there already makes %+v", out)
	}
}

// TestSchemasApart: texts of schemas that differ but in what Canonical leaves out are two; those that differ in what Print leaves out are one.
func TestSchemasApart(t *testing.T) {
	r := history(t, register.New(), step{setLevel("", api.LevelNone), answer{}})
	for at, text := range []string{record(`{"name":"x","type":"int"}`), record(`{"name":"x","type":"int","default":1}`), record(`{"name":"x","type":"int","default":2}`), record(`{"name":"x","type":"int","aliases":["y"],"default":2}`), `{"type":"record","name":".r","aliases":[".q"],"fields":[{"name":"x","type":"int"}]}`, `{"type":"record","name":"a.r","fields":[{"name":"x","type":"int"}]}`} {
		r = history(t, r, step{enter("a", text), answer{api.OK, at + 1, at + 1}})
	}
	history(t, r,
		step{enter("a", `{"name":"r","doc":"d","fields":[{"type":{"type":"int"},"order":"x","name":"x","aliases":[]}],"type":"error","aliases":[]}`), answer{api.OK, 1, 1}},
		step{enter("a", `{"name":"r","fields":[{"type":"int","default":  1 ,"name":"x"}],"type":"record"}`), answer{api.OK, 2, 2}},
		step{enter("a", `{"name":"r","namespace":"a","type":"record","fields":[{"type":"int","name":"x"}]}`), answer{api.OK, 6, 6}})
}

func TestRegisterFaults(t *testing.T) {
	busy := long(t)
	for at, x := range []struct {
		r    reg
		o    op
		want api.Errno
	}{
		{register.New(), enter("", intText), api.ErrName}, {register.New(), enter("9", intText), api.ErrName}, {register.New(), enter("a.", intText), api.ErrName}, {register.New(), enter(".a", intText), api.ErrName}, {register.New(), enter("a-", intText), api.ErrName}, {register.New(), enter(strings.Repeat("a", api.MaxName+1), intText), api.ErrName},
		{register.New(), enter("a", ""), api.ErrForm}, {register.New(), enter("a", "x"), api.ErrForm}, {register.New(), enter("a", "1"), api.ErrType}, {register.New(), enter("a", `"x"`), api.ErrType}, {register.New(), enter("a", `{"type":"fixed","size":1}`), api.ErrName}, {register.New(), enter("a", `{"a":1,"a":1}`), api.ErrTwice}, {register.New(), enter("a", record(`{"name":"x","type":"int","default":"y"}`)), api.ErrDefault}, {register.New(), enter("a", strings.Repeat("[", api.MaxDepth+1)), api.ErrLimit},
		// Which of two comes first (R5).
		{register.New(), enter("9", "x"), api.ErrName}, {full(t), enter("9", "x"), api.ErrName}, {full(t), enter("z", "1"), api.ErrType}, {busy, enter("a", "x"), api.ErrForm}, {full(t), enter("z", "x"), api.ErrForm},
		{history(t, busy, step{setLevel("a", api.LevelBackward), answer{api.OK, 1, 0}}), enter("a", intText), api.ErrLevel}, {busy, enter("a", intText), api.ErrLimit}, {full(t), enter("z", intText), api.ErrLimit}, {full(t), enter("a", intText), api.ErrLimit},
	} {
		if _, got := do(t, x.r, x.o); got != (answer{x.want, 0, 0}) {
			t.Errorf("P14.2: the row %d, %+v: %+v; want error %d", at, x.o, got, x.want)
		}
	}
}

// TestNames: of subjects, too, names may be as long as names are, and a primitive's.
func TestNames(t *testing.T) {
	most := strings.Repeat("a", api.MaxName)
	r := history(t, register.New(), step{enter(most, intText), answer{api.OK, 1, 1}}, step{enter("int", intText), answer{api.OK, 1, 1}}, step{setLevel("_.null", 0), answer{}}, step{setLevel(most, 6), answer{api.OK, 6, 0}})
	if len(r.Subjects) != 3 || r.Subjects[0].Name != "_.null" || r.Subjects[1].Name != most || r.Subjects[2].Name != "int" || r.Subjects[1].Level != 6 {
		t.Errorf("P14.2: %+v", r)
	}
}

// TestLevels: the level that counts is asked, of the versions that are not deleted, in order.
func TestLevels(t *testing.T) {
	one, two := record(`{"name":"x","type":"int"}`), record(`{"name":"x","type":"int","default":1},{"name":"y","type":"int","default":1}`)
	bare, lost := record(""), record(`{"name":"z","type":"int"}`)
	for at, x := range []struct {
		level int
		ahead []string
		text  string
		is    bool
	}{
		{api.LevelNone, []string{intText}, wordText, true}, {api.LevelBackward, []string{intText}, longText, true}, {api.LevelBackward, []string{longText}, intText, false}, {api.LevelForward, []string{longText}, intText, true}, {api.LevelForward, []string{intText}, longText, false},
		{api.LevelFull, []string{one}, two, true}, {api.LevelFull, []string{intText}, longText, false}, {api.LevelFull, []string{longText}, intText, false},
		{api.LevelBackward, []string{lost, one, bare}, lost, true}, // there already
		{api.LevelBackward, []string{bare, one}, lost, false}, {api.LevelBackward, []string{bare, one}, two, true}, {api.LevelBackwardAll, []string{bare, one}, two, true}, {api.LevelBackward, []string{bare, two}, one, true}, {api.LevelBackwardAll, []string{bare, two}, one, false}, {api.LevelForwardAll, []string{bare, two}, one, true}, {api.LevelForward, []string{one, bare}, lost, true}, {api.LevelForwardAll, []string{one, bare}, lost, false}, {api.LevelFullAll, []string{bare, two}, one, false},
	} {
		for _, own := range []bool{true, false} {
			// The level is the subject's own, or the whole's; the other one would answer otherwise.
			r, name := register.New(), ""
			if r.Level = api.LevelNone; x.is {
				r.Level = api.LevelFullAll
			}
			if own {
				name = "a"
			}
			for k, text := range x.ahead {
				r.Schemas = append(r.Schemas, text)
				if k == 0 {
					r.Subjects = []subj{{Name: "a", Level: -1}}
				}
				r.Subjects[0].Versions = append(r.Subjects[0].Versions, ver{N: k + 1, ID: k + 1})
			}
			if !register.Right(r) {
				t.Fatalf("the row %d is not right: %+v", at, r)
			}
			r = history(t, r, step{setLevel(name, x.level), answer{api.OK, x.level, 0}})
			want := answer{api.ErrLevel, 0, 0}
			if x.is {
				want = answer{api.OK, len(x.ahead) + 1, len(x.ahead) + 1}
				if k := slices.Index(x.ahead, x.text); k >= 0 {
					want = answer{api.OK, k + 1, k + 1}
				}
			}
			history(t, r, step{enter("a", x.text), want})
		}
	}
}

// TestGoneAside: deleted versions are not asked, have no schema any more, and count all the same.
func TestGoneAside(t *testing.T) {
	r := history(t, register.New(),
		step{enter("a", intText), answer{api.OK, 1, 1}}, step{enter("a", longText), answer{api.OK, 2, 2}}, step{enter("a", `["null","long"]`), answer{api.OK, 3, 3}},
		step{enter("b", intText), answer{api.OK, 1, 1}}, step{setLevel("a", api.LevelForwardAll), answer{api.OK, 5, 0}}, step{enter("a", `["int"]`), answer{api.OK, 4, 4}},
		step{hide("a", 1), answer{api.OK, 1, 1}}, step{hide("a", 4), answer{api.OK, 4, 4}},
		step{enter("a", `["long"]`), answer{api.OK, 5, 5}},       // what version 1 would not read
		step{enter("a", intText), answer{api.OK, 6, 1}},          // anew, with the ID that it has
		step{enter("a", intText), answer{api.OK, 6, 1}},          // version 6 has it now
		step{enter("b", intText), answer{api.OK, 1, 1}},          // of another subject none was deleted
		step{enter("a", `["int"]`), answer{api.OK, 7, 4}},        // the last one, 6, and all ahead read it
		step{enter("a", `"double"`), answer{api.ErrLevel, 0, 0}}, // none of them reads it
		step{hide("a", 7), answer{api.OK, 7, 4}}, step{hide("a", 6), answer{api.OK, 6, 1}}, step{hide("a", 5), answer{api.OK, 5, 5}}, step{hide("a", 3), answer{api.OK, 3, 3}}, step{hide("a", 2), answer{api.OK, 2, 2}},
		step{enter("a", wordText), answer{api.OK, 8, 6}}, // nobody is asked any more
	)
	if id, text, fault := register.Look(r, "a", 0); id != 6 || text != wordText || fault != api.OK {
		t.Errorf("P14.1: %d, %s, error %d", id, text, fault)
	}
	if s, _ := register.Find(r, "a"); !reflect.DeepEqual(s.Versions, []ver{gone(1, 1), gone(2, 2), gone(3, 3), gone(4, 4), gone(5, 5), gone(6, 1), gone(7, 4), {N: 8, ID: 6}}) {
		t.Errorf("P14.2: %+v", s)
	}
}

// TestVersionLimit: deleted versions count, removed ones don't; what is there already is answered at the limit, too.
func TestVersionLimit(t *testing.T) {
	over := fixed(api.MaxVersions)
	history(t, long(t),
		step{enter("a", over), answer{api.ErrLimit, 0, 0}}, step{enter("a", fixed(3)), answer{api.OK, 4, 4}}, step{enter("b", over), answer{api.OK, 1, api.MaxVersions + 1}},
		step{hide("a", 4), answer{api.OK, 4, 4}}, step{enter("a", over), answer{api.ErrLimit, 0, 0}}, step{enter("a", fixed(3)), answer{api.ErrLimit, 0, 0}},
		step{setLevel("a", api.LevelFull), answer{api.OK, api.LevelFull, 0}}, step{enter("a", over), answer{api.ErrLevel, 0, 0}}, step{setLevel("a", api.LevelNone), answer{}}, // a level needs no room
		step{remove("a", 4), answer{api.OK, 4, 4}}, step{enter("a", over), answer{api.OK, api.MaxVersions + 1, api.MaxVersions + 1}}, step{enter("a", fixed(3)), answer{api.ErrLimit, 0, 0}},
	)
}

// TestSubjectLimit: no subject more, neither by a schema nor by a level; those that are there go on.
func TestSubjectLimit(t *testing.T) {
	r := full(t)
	r = history(t, r,
		step{enter("z", intText), answer{api.ErrLimit, 0, 0}}, step{setLevel("z", 1), answer{api.ErrLimit, 0, 0}}, step{setLevel("a", 1), answer{api.ErrLimit, 0, 0}},
		step{setLevel("", 6), answer{api.OK, 6, 0}}, step{setLevel("s00", 6), answer{api.OK, 6, 0}}, step{enter("s00", intText), answer{api.OK, 1, 1}}, step{enter("s19", intText), answer{api.OK, 1, 1}}, step{enter("s190", intText), answer{api.ErrLimit, 0, 0}},
	)
	if len(r.Schemas) != 1 || len(r.Subjects) != api.MaxSubjects {
		t.Errorf("P14.2: %+v", r)
	}
}

// TestLastNumber: behind the greatest number that there is comes none (R7).
func TestLastNumber(t *testing.T) {
	r := with(api.LevelNone, ver{N: math.MaxInt - 1, ID: 1})
	history(t, r, step{enter("a", longText), answer{api.OK, math.MaxInt, 2}}, step{enter("a", wordText), answer{api.ErrLimit, 0, 0}}, step{enter("a", longText), answer{api.OK, math.MaxInt, 2}}, step{setLevel("a", api.LevelFull), answer{api.OK, 3, 0}}, step{enter("a", wordText), answer{api.ErrLevel, 0, 0}}, step{hide("a", math.MaxInt), answer{api.OK, math.MaxInt, 2}}, step{remove("a", math.MaxInt), answer{api.ErrState, 0, 0}})
}

func TestSetLevel(t *testing.T) {
	for n := range 7 {
		r := history(t, register.New(), step{setLevel("", n), answer{api.OK, n, 0}}, step{setLevel("a", 6-n), answer{api.OK, 6 - n, 0}}, step{setLevel("a.b", n), answer{api.OK, n, 0}}, step{setLevel("A", n), answer{api.OK, n, 0}}, step{setLevel("a.b", 6-n), answer{api.OK, 6 - n, 0}})
		if !same(r, reg{Level: n, Subjects: []subj{{Name: "A", Level: n}, {Name: "a", Level: 6 - n}, {Name: "a.b", Level: 6 - n}}}) {
			t.Errorf("P14.2: %+v", r)
		}
	}
	r := history(t, some(), step{setLevel("a", 4), answer{api.OK, 4, 0}}, step{setLevel("", 2), answer{api.OK, 2, 0}})
	want := some()
	if want.Level, want.Subjects[1].Level = 2, 4; !same(r, want) {
		t.Errorf("P14.2: %+v", r)
	}
	for _, n := range []int{-1, -2, 7, 8, 256, math.MinInt, math.MaxInt} {
		for _, name := range []string{"", "a", "z", "9"} { // ErrArg ahead of ErrName
			history(t, some(), step{setLevel(name, n), answer{api.ErrArg, 0, 0}})
			history(t, full(t), step{setLevel(name, n), answer{api.ErrArg, 0, 0}})
		}
	}
	for _, name := range []string{"9", " ", "a.", ".a", "a..b", strings.Repeat("a", api.MaxName+1)} { // ErrName ahead of ErrLimit
		history(t, some(), step{setLevel(name, 1), answer{api.ErrName, 0, 0}})
		history(t, full(t), step{setLevel(name, 1), answer{api.ErrName, 0, 0}})
	}
	// The first schema of a subject that has but a level is its version 1.
	history(t, some(), step{enter("A.b", wordText), answer{api.OK, 1, 3}}, step{enter("A.b", `"double"`), answer{api.OK, 2, 5}})
}

func TestDelete(t *testing.T) {
	r := history(t, some(), step{hide("a", 3), answer{api.OK, 3, 1}}, step{hide("a", 3), answer{api.ErrNone, 0, 0}}, step{hide("b", 1), answer{api.OK, 1, 2}}, step{hide("b", 1), answer{api.ErrNone, 0, 0}})
	want := some()
	want.Subjects[1].Versions[1].Gone, want.Subjects[3].Versions[0].Gone = true, true
	if !same(r, want) {
		t.Errorf("P14.2: %+v", r)
	}
	for _, o := range []op{hide("a", 0), hide("a", 2), hide("a", 9), hide("a", 1), hide("a", 4), hide("a", -1), hide("a", math.MinInt), hide("A.b", 1), hide("A.b", 0), hide("a.b", 0), hide("a.b", 2), hide("b", 0), hide("b", 2), hide("c", 1), hide("c", 0), hide("", 0), hide("", 1), hide("9", 1)} {
		history(t, some(), step{o, answer{api.ErrNone, 0, 0}})
	}
}

func TestRemove(t *testing.T) {
	r := history(t, some(), step{remove("a", 2), answer{api.OK, 2, 3}}, step{remove("a", 2), answer{api.ErrNone, 0, 0}}, step{remove("a.b", 1), answer{api.OK, 1, 1}}, step{remove("a.b", 2), answer{api.ErrState, 0, 0}},
		step{remove("a", 3), answer{api.ErrState, 0, 0}}, step{hide("a", 3), answer{api.OK, 3, 1}}, step{remove("a", 3), answer{api.OK, 3, 1}})
	want := some()
	want.Subjects[1].Versions, want.Subjects[2].Versions = []ver{{N: 5, ID: 2}, {N: 9, ID: 1, Gone: true}}, []ver{{N: 2, ID: 1, Gone: true}}
	if !same(r, want) {
		t.Errorf("P14.2: %+v", r)
	}
	for o, fault := range map[op]api.Errno{remove("a", 3): api.ErrState, remove("a", 5): api.ErrState, remove("a", 9): api.ErrState, remove("a.b", 2): api.ErrState, remove("b", 1): api.ErrState, remove("a", 0): api.ErrNone, remove("a", 1): api.ErrNone, remove("a", 4): api.ErrNone, remove("a", -1): api.ErrNone, remove("A.b", 0): api.ErrNone, remove("A.b", 1): api.ErrNone, remove("b", 0): api.ErrNone, remove("c", 0): api.ErrNone, remove("c", 1): api.ErrNone, remove("", 0): api.ErrNone, remove("9", 1): api.ErrNone} {
		history(t, some(), step{o, answer{fault, 0, 0}})
	}
	// A number is not given again: behind 9, which is deleted but stands, comes 10.
	history(t, r, step{setLevel("a", 0), answer{}}, step{enter("a", `"null"`), answer{api.OK, 10, 4}}, step{remove("a", 9), answer{api.OK, 9, 1}}, step{hide("a", 10), answer{api.OK, 10, 4}}, step{remove("a", 10), answer{api.ErrState, 0, 0}}, step{enter("a", `"null"`), answer{api.OK, 11, 4}})
}

func TestOtherKinds(t *testing.T) {
	for _, kind := range []int{0, -1, 5, 6, 9, 257, 1 << 32, 1<<32 + 1, math.MinInt, math.MaxInt} {
		for _, r := range []reg{register.New(), some(), full(t)} {
			for _, o := range []op{{Kind: kind}, {Kind: kind, Name: "a", Text: intText, N: 3}, {Kind: kind, Name: "9", Text: "x", N: -7}, {Kind: kind, Name: "zz", N: 1}} {
				history(t, r, step{o, answer{api.ErrArg, 0, 0}})
			}
		}
	}
}
