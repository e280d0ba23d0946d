package names_test

import (
	"regexp"
	"strings"
	"testing"
	"unicode/utf8"

	"courant/api"
	"courant/names"
)

var (
	simpleForm = regexp.MustCompile(`\A[A-Za-z_][A-Za-z0-9_]*\z`)
	fullForm   = regexp.MustCompile(`\A[A-Za-z_][A-Za-z0-9_]*(\.[A-Za-z_][A-Za-z0-9_]*)*\z`)
)

// primitives are in the order of their kinds, from 1 on.
func primitives() []string {
	return []string{"null", "boolean", "int", "long", "float", "double", "bytes", "string"}
}

func isPrimitive(s string) bool {
	for _, p := range primitives() {
		if p == s {
			return true
		}
	}
	return false
}

// x is a piece of n bytes.
func x(n int) string { return strings.Repeat("x", n) }

// texts are all texts of up to four of some signs, and texts at the edges of the limit.
func texts() []string {
	out := []string{""}
	for from, n := 0, 0; n < 4; n++ {
		to := len(out)
		for _, s := range out[from:to] {
			for _, sign := range []string{"a", "Z", "_", "7", ".", "-"} {
				out = append(out, s+sign)
			}
		}
		from = to
	}
	const most = api.MaxName
	for _, n := range []int{most - 2, most - 1, most, most + 1, most + 2, 10 * most} {
		out = append(out, x(n), "."+x(n), x(n)+".", x(n)+"-", "9"+x(n), "a."+x(n), x(n)+".a", x(n/2)+"."+x(n-n/2-1), strings.Repeat("a.", n/2)+"a", strings.Repeat(".", n))
	}
	for _, p := range primitives() {
		out = append(out, p, "."+p, "a."+p, p+".a", p+"."+p, p+"x", p[1:], strings.ToUpper(p), " "+p, p+"\x00")
	}
	return append(out, "\u00e4", "a\u00e4", "\u00e4.a", "a\xff", "\xff", "\u0430", "a\u0663", "a b", " a", "a ", "a\n", "a\x00", "\x00", "a/b", "a..b", "..", "...", ".a.b", "a.b.c.", "a.9", "a.b9._")
}

// spaces are some that may be around a name, and some that may not.
func spaces() []string {
	const most = api.MaxName
	return []string{"", "b", "b.c", "_.B9", "int", "int.long", "9", ".", ".b", "b.", "b..c", "b-", "\u00e4", "b\x00", x(most - 4), x(most - 3), x(most - 2), x(most - 1), x(most), x(most + 1), x(most/2) + "." + x(most/2-3)}
}

// made is P3.2's Make, by the forms above.
func made(name, space string) (string, bool) {
	simple := func(s string) bool { return len(s) <= api.MaxName && simpleForm.MatchString(s) }
	full := func(s string) bool { return len(s) <= api.MaxName && fullForm.MatchString(s) }
	out := ""
	switch {
	case strings.HasPrefix(name, "."):
		if simple(name[1:]) {
			out = name[1:]
		}
	case strings.Contains(name, "."):
		if full(name) {
			out = name
		}
	case simple(name) && space == "":
		out = name
	case simple(name) && full(space) && full(space+"."+name):
		out = space + "." + name
	}
	if isPrimitive(out) {
		out = ""
	}
	return out, out != ""
}

func TestSimpleAndFull(t *testing.T) {
	const most = api.MaxName
	rows := []struct {
		s            string
		simple, full bool
	}{
		{"", false, false}, {"a", true, true}, {"Z", true, true}, {"_", true, true}, {"__", true, true}, {"a0", true, true}, {"0", false, false}, {"9a", false, false},
		{"int", true, true}, {"int.int", false, true}, {"a.b", false, true}, {"a.b.c", false, true}, {"_._9.Z", false, true}, {"a.9", false, false}, {"9.a", false, false},
		{".", false, false}, {".a", false, false}, {"a.", false, false}, {"a..b", false, false}, {"a-b", false, false}, {"a b", false, false}, {"a.b ", false, false},
		{"\u00e4", false, false}, {"a.\u00e4", false, false}, {"a\xff", false, false}, {"a\n", false, false}, {"a\x00", false, false},
		{x(most), true, true}, {x(most + 1), false, false}, {x(most-2) + ".x", false, true}, {x(most-1) + ".x", false, false}, {"x." + x(most), false, false},
		{strings.Repeat("a.", most/2-1) + "aa", false, true}, {strings.Repeat("a.", most/2) + "a", false, false},
	}
	for _, r := range rows {
		if names.Simple(r.s) != r.simple || names.Full(r.s) != r.full {
			t.Errorf("P3.1: %.20q: Simple %v, Full %v; want %v, %v", r.s, names.Simple(r.s), names.Full(r.s), r.simple, r.full)
		}
	}
}

func TestSimpleAndFullByTheForms(t *testing.T) {
	for _, s := range texts() {
		fits := len(s) <= api.MaxName
		if got, want := names.Simple(s), fits && simpleForm.MatchString(s); got != want {
			t.Errorf("P3.1: Simple(%.20q): %v", s, got)
		}
		if got, want := names.Full(s), fits && fullForm.MatchString(s); got != want {
			t.Errorf("P3.1: Full(%.20q): %v", s, got)
		}
	}
}

func TestEachByteOfAName(t *testing.T) {
	for i := range 256 {
		sign := string([]byte{byte(i)})
		for _, s := range []string{sign, "a" + sign, sign + "a", "a" + sign + "b"} {
			if got := names.Simple(s); got != simpleForm.MatchString(s) {
				t.Errorf("P3.1: Simple(%q): %v", s, got)
			}
			for _, s := range []string{s, "a." + s, s + ".a"} {
				if got := names.Full(s); got != fullForm.MatchString(s) {
					t.Errorf("P3.1: Full(%q): %v", s, got)
				}
			}
		}
	}
}

func TestEachSignOfAName(t *testing.T) {
	for sign := rune(utf8.RuneSelf); sign <= 0xffff; sign++ {
		if s := "a" + string(sign); names.Simple(s) || names.Full(s) {
			t.Errorf("P3.1: %q is a name", s)
		}
	}
}

func TestShortAndSpace(t *testing.T) {
	rows := []struct{ s, space, short string }{
		{"", "", ""}, {"a", "", "a"}, {"a.b", "a", "b"}, {"a.b.c", "a.b", "c"}, {"int", "", "int"}, {"a.int", "a", "int"},
		{".", "", ""}, {".a", "", "a"}, {"a.", "a", ""}, {"..", ".", ""}, {"a..b", "a.", "b"}, {"..a", ".", "a"}, {"-.\xff", "-", "\xff"},
		{x(500) + "." + x(400), x(500), x(400)}, {x(500), "", x(500)},
	}
	for _, r := range rows {
		if space, short := names.Space(r.s), names.Short(r.s); space != r.space || short != r.short {
			t.Errorf("P3.1: %.20q: Space %.20q, Short %.20q; want %.20q, %.20q", r.s, space, short, r.space, r.short)
		}
	}
	for _, s := range texts() {
		space, short := names.Space(s), names.Short(s)
		if strings.Contains(short, ".") {
			t.Errorf("P3.1: Short(%.20q) has a point: %.20q", s, short)
		}
		if whole := space + "." + short; strings.Contains(s, ".") && whole != s {
			t.Errorf("P3.1: %.20q falls into %.20q", s, whole)
		}
		if !strings.Contains(s, ".") && (space != "" || short != s) {
			t.Errorf("P3.1: %.20q without a point: %.20q, %.20q", s, space, short)
		}
	}
}

func TestPrimitive(t *testing.T) {
	kinds := []int{api.Null, api.Boolean, api.Int, api.Long, api.Float, api.Double, api.Bytes, api.String}
	for i, s := range primitives() {
		if got := names.Primitive(s); got != kinds[i] {
			t.Errorf("P3.1: Primitive(%q): %d; want %d", s, got, kinds[i])
		}
	}
	for _, s := range append(texts(), "record", "error", "enum", "array", "map", "union", "fixed", "bool", "nul", "Int", "nulls") {
		if got := names.Primitive(s); got != 0 && !isPrimitive(s) {
			t.Errorf("P3.1: Primitive(%.20q): %d; want 0", s, got)
		}
	}
}

func TestMake(t *testing.T) {
	const most = api.MaxName
	rows := []struct{ name, space, want string }{
		{"a", "b.c", "b.c.a"}, {"a", "b", "b.a"}, {"a", "", "a"}, {"_", "_", "_._"},
		{"int", "", ""}, {"string", "", ""}, {"int", "b", "b.int"}, {"a", "int", "int.a"}, {"long", "int", "int.long"}, {"record", "", "record"}, {"Int", "", "Int"},
		{".a", "", "a"}, {".a", "b.c", "a"}, {".a", "9", "a"}, {".int", "", ""}, {".int", "b", ""}, {".a.b", "", ""}, {"..a", "b", ""}, {".", "b", ""}, {".9", "", ""}, {"..", "", ""},
		{"a.b", "", "a.b"}, {"a.b", "c", "a.b"}, {"a.b", "9", "a.b"}, {"a.int", "", "a.int"}, {"int.int", "c", "int.int"}, {"a.", "", ""}, {"a..b", "", ""}, {"a.9", "c", ""}, {"a.b-", "c", ""},
		{"", "", ""}, {"", "b", ""}, {"9", "", ""}, {"a-", "", ""}, {"a-", "b", ""}, {"\u00e4", "", ""},
		{"a", "9", ""}, {"a", ".", ""}, {"a", ".b", ""}, {"a", "b.", ""}, {"a", "b..c", ""}, {"a", "b-", ""}, {"a", " ", ""},
		{x(most), "", x(most)}, {x(most + 1), "", ""}, {"." + x(most), "b", x(most)}, {"." + x(most+1), "b", ""},
		{"b." + x(most-2), "", "b." + x(most-2)}, {"b." + x(most-1), "", ""},
		{x(most - 2), "b", "b." + x(most-2)}, {x(most - 1), "b", ""}, {"a", x(most - 2), x(most-2) + ".a"}, {"a", x(most - 1), ""}, {"a", x(most + 1), ""}, {x(most), x(most), ""},
	}
	for i, r := range rows {
		if got, is := names.Make(r.name, r.space); got != r.want || is != (r.want != "") {
			t.Errorf("P3.2: the row %d: Make(%.20q, %.20q): %.20q, %v; want %.20q", i, r.name, r.space, got, is, r.want)
		}
	}
}

func TestMakeByTheForms(t *testing.T) {
	for _, name := range texts() {
		for _, space := range spaces() {
			want, right := made(name, space)
			got, is := names.Make(name, space)
			if got != want || is != right {
				t.Errorf("P3.2: Make(%.20q, %.20q): %.20q, %v; want %.20q", name, space, got, is, want)
			}
			if is && !names.Full(got) {
				t.Errorf("P3.2: Make(%.20q, %.20q) is no full name: %.20q", name, space, got)
			}
		}
	}
}

func TestWrite(t *testing.T) {
	rows := []struct{ full, want string }{
		{"a", ".a"}, {"a.b", "a.b"}, {"a.b.c", "a.b.c"}, {"int", ".int"}, {"a.int", "a.int"},
		{"", "."}, {".", "."}, {".a", ".a"}, {"a.", "a."}, {"-", ".-"}, {"\xff", ".\xff"}, {x(500), "." + x(500)},
	}
	for _, r := range rows {
		if got := names.Write(r.full); got != r.want {
			t.Errorf("P3.2: Write(%.20q): %.20q; want %.20q", r.full, got, r.want)
		}
	}
}

func TestMadeAgain(t *testing.T) {
	for _, name := range texts() {
		for _, space := range spaces() {
			if full, is := names.Make(name, space); is {
				again(t, full)
			}
		}
	}
}

// again holds a name against what is made of its parts, and of what Write tells of it in whatever space.
func again(t *testing.T, full string) {
	t.Helper()
	if got, is := names.Make(names.Short(full), names.Space(full)); got != full || !is {
		t.Errorf("What follows: %.20q of its parts: %.20q, %v", full, got, is)
	}
	for _, space := range spaces() {
		if got, is := names.Make(names.Write(full), space); got != full || !is {
			t.Errorf("What follows: %.20q, as it is written, in %.20q: %.20q, %v", full, space, got, is)
		}
	}
}

func TestLongTexts(t *testing.T) {
	long := strings.Repeat("a.", 1<<20)
	if names.Simple(long) || names.Full(long) || names.Short(long) != "" || len(names.Space(long)) != len(long)-1 || names.Primitive(long) != 0 {
		t.Error("P3.1: a text far beyond the limit")
	}
	for _, name := range []string{long, "." + long, x(1 << 20)} {
		if got, is := names.Make(name, long); got != "" || is {
			t.Errorf("P3.2: Make of a text far beyond the limit: %.20q, %v", got, is)
		}
	}
	if got, is := names.Make("a", long); got != "" || is {
		t.Errorf("P3.2: Make in a space far beyond the limit: %.20q, %v", got, is)
	}
}

func FuzzMake(f *testing.F) {
	f.Add("a", "b.c")
	f.Add(".int", "")
	f.Add("a..b", "\xff")
	f.Fuzz(func(t *testing.T, name, space string) {
		want, right := made(name, space)
		got, is := names.Make(name, space)
		if got != want || is != right {
			t.Errorf("P3.2: Make(%q, %q): %q, %v; want %q", name, space, got, is, want)
		}
		if is {
			again(t, got)
		}
	})
}
