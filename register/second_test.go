package register_test

import (
	"cmp"
	"math"
	"math/rand"
	"reflect"
	"slices"
	"strconv"
	"testing"

	"courant/api"
	"courant/canon"
	"courant/check"
	"courant/register"
	"courant/schema"
)

// book is a registry once more, in another form: subjects in a map, versions under their numbers, schemas under their texts.
type book struct {
	level int
	ids   map[string]int
	pages map[string]*page
}

// page is a subject of a book.
type page struct {
	level int
	most  int
	texts map[int]string // of each number, whether it was deleted or not
	gone  map[int]bool
}

func newBook() *book {
	return &book{api.LevelBackward, map[string]int{}, map[string]*page{}}
}

// numbers are those of a page, rising; without deleted ones, if live.
func (p *page) numbers(live bool) (out []int) {
	if p == nil {
		return nil
	}
	for n := range p.texts {
		if !live || !p.gone[n] {
			out = append(out, n)
		}
	}
	slices.Sort(out)
	return out
}

// parsed is the schema of a text that has one.
func parsed(text string) api.Schema {
	s, _ := schema.Parse(text)
	return s
}

// refuses tells whether a level speaks against a text behind others.
func refuses(level int, ahead []string, text string) bool {
	asked := ahead
	if level <= api.LevelFull && len(ahead) > 0 {
		asked = ahead[len(ahead)-1:]
	}
	bits, against := []int{0, 1, 2, 3, 1, 2, 3}[level], false
	for _, old := range asked {
		against = against || bits&1 > 0 && !check.Reads(parsed(old), parsed(text)) || bits&2 > 0 && !check.Reads(parsed(text), parsed(old))
	}
	return against
}

// named tells whether that may be a subject's name, of those of the pool.
func (b *book) named(name string) bool {
	return slices.Contains(poolNames[2:], name)
}

// register is RegRegister.
func (b *book) register(name, text string) answer {
	s, fault := schema.Parse(text)
	p, print := b.pages[name], canon.Print(s)
	var ahead []string
	for _, n := range p.numbers(true) {
		ahead = append(ahead, p.texts[n])
	}
	level := b.level
	if p != nil && p.level >= 0 {
		level = p.level
	}
	has := slices.Index(ahead, print)
	switch {
	case !b.named(name):
		return answer{fault: api.ErrName}
	case fault != api.OK:
		return answer{fault: fault}
	case has >= 0:
		return answer{api.OK, p.numbers(true)[has], b.ids[print]}
	case refuses(level, ahead, text):
		return answer{fault: api.ErrLevel}
	case p != nil && len(p.texts) == api.MaxVersions, p == nil && len(b.pages) == api.MaxSubjects:
		return answer{fault: api.ErrLimit}
	}
	if p == nil {
		p = &page{-1, 0, map[int]string{}, map[int]bool{}}
		b.pages[name] = p
	}
	if b.ids[print] == 0 {
		b.ids[print] = len(b.ids) + 1
	}
	p.most++
	p.texts[p.most] = print
	return answer{api.OK, p.most, b.ids[print]}
}

// setLevel is RegLevel.
func (b *book) setLevel(name string, n int) answer {
	p := b.pages[name]
	switch {
	case n < 0 || n > 6:
		return answer{fault: api.ErrArg}
	case name == "":
		b.level = n
		return answer{api.OK, n, 0}
	case !b.named(name):
		return answer{fault: api.ErrName}
	case p == nil && len(b.pages) == api.MaxSubjects:
		return answer{fault: api.ErrLimit}
	case p == nil:
		p = &page{0, 0, map[int]string{}, map[int]bool{}}
		b.pages[name] = p
	}
	p.level = n
	return answer{api.OK, n, 0}
}

// do does any operation.
func (b *book) do(o op) answer {
	switch o.Kind {
	case api.RegRegister:
		return b.register(o.Name, o.Text)
	case api.RegLevel:
		return b.setLevel(o.Name, o.N)
	case api.RegDelete, api.RegRemove:
	default:
		return answer{fault: api.ErrArg}
	}
	p := b.pages[o.Name]
	if p == nil || p.texts[o.N] == "" {
		return answer{fault: api.ErrNone}
	}
	out := answer{api.OK, o.N, b.ids[p.texts[o.N]]}
	switch {
	case o.Kind == api.RegDelete && p.gone[o.N]:
		return answer{fault: api.ErrNone}
	case o.Kind == api.RegDelete:
		p.gone[o.N] = true
	case !p.gone[o.N] || o.N == p.most:
		return answer{fault: api.ErrState}
	default:
		delete(p.texts, o.N)
	}
	return out
}

// registry is the book in the plain form.
func (b *book) registry() reg {
	out := reg{Level: b.level, Schemas: make([]string, len(b.ids))}
	for text, id := range b.ids {
		out.Schemas[id-1] = text
	}
	for name, p := range b.pages {
		s := subj{Name: name, Level: p.level}
		for _, n := range p.numbers(false) {
			s.Versions = append(s.Versions, ver{N: n, ID: b.ids[p.texts[n]], Gone: p.gone[n]})
		}
		out.Subjects = append(out.Subjects, s)
	}
	slices.SortFunc(out.Subjects, func(a, b subj) int { return cmp.Compare(a.Name, b.Name) })
	return out
}

// poolNames are names of subjects; the first two are none.
var poolNames = func() []string {
	out := []string{"", "9"}
	for k := range api.MaxSubjects + 3 {
		out = append(out, []string{"a", "b.", "B", "_"}[k%4]+"s"+strconv.Itoa(k/4))
	}
	return out
}()

// poolTexts are texts of schemas, many of which are read by others; some are wrong.
var poolTexts = func() []string {
	out := []string{intText, ` "long"`, `{"type":"float"}`, `"double"`, wordText, `"bytes"`, `["int"]`, `["null","int"]`, `["null",{"type":"long"}]`, "", "x", `"x"`, `{"type":"enum","name":"e","symbols":[]}`, record(`{"name":"x","type":"int","default":""}`)}
	for _, x := range []string{"", `{"name":"x","type":"int"}`, `{"name":"x","type":"int","default":1}`, `{"name":"x","type":"long","default":1}`, `{"type":"long","name":"x"},{"name":"y","type":"int","default":1}`, `{"name":"y","type":"int","default":1},{"name":"z","type":["null","r"],"default":null}`, `{"name":"w","aliases":["x"],"type":["long"],"default":1}`} {
		out = append(out, record(x))
	}
	for k := range 30 {
		out = append(out, `{"name":"f`+strconv.Itoa(k%2)+`","type":"fixed","size":`+strconv.Itoa(k)+`}`)
	}
	return out
}()

// someOp is an operation by chance, mostly of few subjects.
func someOp(c *rand.Rand, few int) op {
	o := op{Kind: api.RegRegister + c.Intn(4), Name: poolNames[2+c.Intn(few)], Text: poolTexts[c.Intn(len(poolTexts))], N: 1 + c.Intn(24)}
	switch c.Intn(12) {
	case 0:
		o.Name = poolNames[c.Intn(len(poolNames))]
	case 1:
		o.N = []int{0, -1, 7, math.MaxInt, math.MinInt}[c.Intn(5)]
	case 2:
		o.Kind = []int{0, 5, -1}[c.Intn(3)]
	case 3, 4, 5, 6, 7, 8:
		o.Kind = api.RegRegister
	}
	if o.Kind == api.RegLevel && o.N > 0 {
		o.N %= 9
	}
	return o
}

// holdCalls holds Find, Level and Look of a name against the book.
func holdCalls(t *testing.T, b *book, r reg, name string) {
	t.Helper()
	p, plain := b.pages[name], b.registry()
	s, is := register.Find(r, name)
	at := slices.IndexFunc(plain.Subjects, func(s subj) bool { return s.Name == name })
	if is != (p != nil) || is && !same(reg{Subjects: []subj{s}}, reg{Subjects: []subj{plain.Subjects[at]}}) || !is && !reflect.DeepEqual(s, subj{}) {
		t.Errorf("P14.1: Find of %q: %+v, %v", name, s, is)
	}
	level := b.level
	if p != nil && p.level != -1 {
		level = p.level
	}
	if got := register.Level(r, name); got != level {
		t.Errorf("P14.1: Level of %q: %d; want %d", name, got, level)
	}
	live := p.numbers(true)
	for n := -1; n < 26; n++ {
		asked, want := n, ""
		if n == 0 && len(live) > 0 {
			asked = live[len(live)-1]
		}
		if slices.Contains(live, asked) {
			want = p.texts[asked]
		}
		id, text, fault := register.Look(r, name, n)
		if id != b.ids[want] || text != want || (fault == api.OK) != (want != "") || fault != api.OK && fault != api.ErrNone {
			t.Errorf("P14.1: Look of %q, %d: %d, %s, error %d; want %s", name, n, id, text, fault, want)
		}
	}
}

// TestByChance holds long histories against the second form.
func TestByChance(t *testing.T) {
	c, seen := rand.New(rand.NewSource(14)), map[answer]int{}
	for day := range 60 {
		b, r, few := newBook(), register.New(), []int{1, 2, 4, len(poolNames) - 2}[day%4]
		for range 250 {
			o, ahead := someOp(c, few), r
			want := b.do(o)
			next, got := do(t, r, o)
			if got != want || !same(next, b.registry()) || !register.Right(next) {
				t.Fatalf("P14.2: the day %d, %+v: %+v, %+v; want %+v, %+v", day, o, got, next, want, b.registry())
			}
			if !slices.Equal(next.Schemas[:len(ahead.Schemas)], ahead.Schemas) {
				t.Fatalf("What follows: %+v changes what IDs mean", o)
			}
			seen[answer{got.fault, o.Kind, 0}]++
			r = next
		}
		for _, name := range poolNames {
			holdCalls(t, b, r, name)
		}
	}
	for _, x := range []answer{{api.OK, 1, 0}, {api.ErrName, 1, 0}, {api.ErrForm, 1, 0}, {api.ErrType, 1, 0}, {api.ErrDefault, 1, 0}, {api.ErrLevel, 1, 0}, {api.ErrLimit, 1, 0}, {api.OK, 2, 0}, {api.ErrArg, 2, 0}, {api.ErrName, 2, 0}, {api.ErrLimit, 2, 0}, {api.OK, 3, 0}, {api.ErrNone, 3, 0}, {api.OK, 4, 0}, {api.ErrNone, 4, 0}, {api.ErrState, 4, 0}, {api.ErrArg, 0, 0}} {
		if seen[x] < 3 {
			t.Errorf("too few of what is looked for: error %d of the kind %d: %d", x.fault, x.n, seen[x])
		}
	}
}

// TestNothingShared: what is answered is new memory, of whatever operation (R3): who writes into it changes neither what was handed in nor another answer; and the room behind the ends stays.
func TestNothingShared(t *testing.T) {
	build := func() reg {
		r := some()
		r.Schemas = append(r.Schemas, "left", "over")[:4]
		r.Subjects = append(r.Subjects, subj{Name: "left"}, subj{Name: "over"})[:4]
		for at := range r.Subjects {
			v := r.Subjects[at].Versions
			r.Subjects[at].Versions = append(slices.Clone(v), gone(7, 7), gone(8, 8))[:len(v)]
		}
		return r
	}
	whole := func(r reg) (out []any) {
		out = append(out, r.Level, r.Schemas[:cap(r.Schemas)])
		for _, s := range r.Subjects[:cap(r.Subjects)] {
			out = append(out, s.Name, s.Level, s.Versions[:cap(s.Versions)])
		}
		return out
	}
	spoil := func(s *subj) {
		v := s.Versions[:cap(s.Versions)]
		for at := range v {
			v[at] = ver{N: -5, ID: -5, Gone: !v[at].Gone}
		}
	}
	for _, o := range []op{enter("a", intText), enter("a", `["null","int"]`), enter("c", wordText), enter("0", wordText), enter("a", "x"), enter("a", wordText), setLevel("", 3), setLevel("b", 3), setLevel("C", 3), setLevel("b", 9), hide("a", 3), hide("a", 2), remove("a", 2), remove("a", 3), remove("a", 7), {}} {
		r := build()
		first, n, id, fault := register.Do(r, o)
		kept := bare(first)
		second, _, _, _ := register.Do(r, o)
		if !reflect.DeepEqual(whole(r), whole(build())) {
			t.Errorf("R3: %+v changed what was handed in", o)
		}
		for at := range second.Schemas[:cap(second.Schemas)] {
			second.Schemas[:cap(second.Schemas)][at] = "spoilt"
		}
		for at := range second.Subjects[:cap(second.Subjects)] {
			s := &second.Subjects[:cap(second.Subjects)][at]
			spoil(s)
			*s = subj{Name: "spoilt"}
		}
		if !reflect.DeepEqual(whole(r), whole(build())) || !same(first, kept) {
			t.Errorf("R3: who writes into what %+v answers changes other things", o)
		}
		again, n2, id2, fault2 := register.Do(r, o)
		if !same(again, kept) || n2 != n || id2 != id || fault2 != fault {
			t.Errorf("R2: %+v is answered otherwise the second time", o)
		}
	}
	r := build()
	for at := range r.Subjects {
		s, _ := register.Find(r, r.Subjects[at].Name)
		spoil(&s)
	}
	register.Look(r, "a", 0)
	register.Level(r, "a")
	if register.Right(r); !reflect.DeepEqual(whole(r), whole(build())) {
		t.Error("R3: who writes into what Find answers changes what was handed in")
	}
}

// TestOdd: no registry, however odd, and no operation brings a panic (R1).
func TestOdd(t *testing.T) {
	c := rand.New(rand.NewSource(41))
	pick := func() int {
		return []int{0, 1, 2, 3, -1, -2, 5, 100, math.MaxInt, math.MinInt, math.MaxInt - 1}[c.Intn(11)]
	}
	someTexts := append([]string{"", "\x00", intText, intText, "[[[["}, poolTexts...)
	someNames := append([]string{"\xff", "a", "a"}, poolNames...)
	for range 3000 {
		r := reg{Level: pick()}
		for range c.Intn(4) {
			r.Schemas = append(r.Schemas, someTexts[c.Intn(len(someTexts))])
		}
		for range c.Intn(25) {
			s := subj{Name: someNames[c.Intn(6)], Level: pick()}
			for range c.Intn(4) {
				s.Versions = append(s.Versions, ver{N: pick(), ID: pick(), Gone: c.Intn(3) == 0})
			}
			r.Subjects = append(r.Subjects, s)
		}
		ahead := bare(r)
		for range 4 {
			o := op{Kind: c.Intn(6), Name: someNames[c.Intn(6)], Text: someTexts[c.Intn(len(someTexts))], N: pick()}
			register.Do(r, o)
			register.Find(r, o.Name)
			register.Look(r, o.Name, o.N)
			register.Level(r, o.Name)
		}
		if register.Right(r) && len(r.Subjects) > 20 || !same(r, ahead) {
			t.Fatalf("R3: %+v", r)
		}
	}
}
