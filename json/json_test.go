package json_test

import (
	"slices"
	"strconv"
	"strings"
	"testing"

	"courant/api"
	"courant/json"
)

func null() api.Json              { return api.Json{Kind: api.JNull} }
func number(text string) api.Json { return api.Json{Kind: api.JNumber, Text: text} }
func text(text string) api.Json   { return api.Json{Kind: api.JString, Text: text} }
func array(l ...api.Json) api.Json {
	return api.Json{Kind: api.JArray, L: l}
}
func object(keys []string, l ...api.Json) api.Json {
	return api.Json{Kind: api.JObject, Keys: keys, L: l}
}

// same is R9's: all fields, and the elements of lists one by one.
func same(a, b api.Json) bool {
	return a.Kind == b.Kind && a.Text == b.Text && slices.Equal(a.Keys, b.Keys) && slices.EqualFunc(a.L, b.L, same)
}

// chain is an array within others: n of them in all, with v within the innermost.
func chain(n int, v ...api.Json) api.Json {
	out := array(v...)
	for range n - 1 {
		out = array(out)
	}
	return out
}

// spoil writes over all lists of v, and over the room behind their ends.
func spoil(v api.Json) {
	for _, x := range v.L {
		spoil(x)
	}
	list, keys := v.L[:cap(v.L)], v.Keys[:cap(v.Keys)]
	for i := range list {
		list[i] = api.Json{Kind: 99, Text: "#"}
	}
	for i := range keys {
		keys[i] = "#"
	}
}

func parsed(t *testing.T, s string) api.Json {
	t.Helper()
	v, fault := json.Parse(s)
	if fault != api.OK {
		t.Fatalf("P2.1: Parse(%.60q): error %d", s, fault)
	}
	return v
}

func TestParseValues(t *testing.T) {
	rows := []struct {
		text string
		want api.Json
	}{
		{"null", null()}, {"true", api.Json{Kind: api.JTrue}}, {"false", api.Json{Kind: api.JFalse}},
		{" \t\r\n null\n\r\t ", null()},
		{"0", number("0")}, {"-0", number("0")}, {"7", number("7")}, {"-7", number("-7")}, {"10", number("10")}, {"-10203", number("-10203")},
		{"9999999999999999999", number("9999999999999999999")}, {"-9999999999999999999", number("-9999999999999999999")},
		{"1000000000000000000", number("1000000000000000000")},
		{`""`, text("")}, {`"a b"`, text("a b")}, {"\"\x7f\x20\u00e9\u20ac\U0001f600\ufffd\"", text("\x7f\x20\u00e9\u20ac\U0001f600\ufffd")},
		{`"\"\\\/\b\f\n\r\t"`, text("\"\\/\b\f\n\r\t")},
		{`"\u0000\u001f\u0041\u00e9\u20AC\u20ac\uffff\ud7ff\ue000"`, text("\x00\x1fA\u00e9\u20ac\u20ac\uffff\ud7ff\ue000")},
		{`"\ud83d\ude00\uD83D\uDE00"`, text("\U0001f600\U0001f600")},
		{`"\ud800\udc00\udbff\udfff"`, text("\U00010000\U0010ffff")},
		{`"\ud83d\ude00de00"`, text("\U0001f600de00")}, {`"\u00410"`, text("A0")},
		{"[]", array()}, {" [ ] ", array()}, {"[[]]", array(array())},
		{"[1,\"a\"]", array(number("1"), text("a"))}, {"\n[\t1\r, \"a\" ] ", array(number("1"), text("a"))},
		{"[-0,0,[null,true],{}]", array(number("0"), number("0"), array(null(), api.Json{Kind: api.JTrue}), object(nil))},
		{"{}", object(nil)}, {"{ }", object(nil)},
		{`{"b":1,"a":2}`, object([]string{"b", "a"}, number("1"), number("2"))},
		{" { \"b\" : 1 , \"a\"\n:\t[ ] } ", object([]string{"b", "a"}, number("1"), array())},
		{`{"":{"":{"a":"a"}}}`, object([]string{""}, object([]string{""}, object([]string{"a"}, text("a"))))},
		{`{"a":{"a":1},"A":1,"\u0062":1}`, object([]string{"a", "A", "b"}, object([]string{"a"}, number("1")), number("1"), number("1"))},
		{`[{"a":1},{"a":1}]`, array(object([]string{"a"}, number("1")), object([]string{"a"}, number("1")))},
	}
	for _, x := range rows {
		v, fault := json.Parse(x.text)
		if fault != api.OK || !same(v, x.want) {
			t.Errorf("P2.1: Parse(%q): %v, error %d; want %v", x.text, v, fault, x.want)
		}
		if !json.Right(v) {
			t.Errorf("P2.2: what Parse(%q) tells is not right", x.text)
		}
	}
}

func TestParseWrong(t *testing.T) {
	rows := []string{
		"", " ", "\x00", "x", "nul", "nulll", "Null", "NULL", "tru", "truee", "fals", "null null", "null,", "null\x00", "null\v", "\f1", "\u00a01", "\ufeff1", "//1", "1//",
		"-", "--1", "+1", "- 1", "00", "01", "-00", "-01", "1.5", "1.", ".5", "0.0", "1e5", "1E5", "0e0", "0x1", "1_0", "1a", "1 2", "NaN", "Infinity",
		"10000000000000000000", "-10000000000000000000", "99999999999999999999", "[99999999999999999999]", strings.Repeat("1", 1000),
		`"`, `"a`, `"a\"`, `"\`, `a"`, `'a'`, `"a" "b"`, `"a""b"`,
		"\"\n\"", "\"\x00\"", "\"\x1f\"", "\"\t\"",
		"\"\xff\"", "\"\x80\"", "\"\xc3\"", "\"\xc0\x80\"", "\"\xe2\x82\"", "\"\xed\xa0\x80\"", "\"\xed\xa0\xbd\xed\xb8\x80\"", "\"\xf4\x90\x80\x80\"", "\"\xc3\\u00a9\"",
		`"\x"`, `"\U0041"`, `"\a"`, `"\v"`, `"\0"`, `"\'"`, `"\ "`, "\"\\\n\"",
		`"\u"`, `"\u12"`, `"\u123"`, `"\u123`, `"\u123g"`, `"\u-123"`, `"\u+123"`, `"\u 123"`, `"\u0x1"`, `"\u1_2a"`, `"\u12 3"`,
		`"\ud800"`, `"\udbff"`, `"\udc00"`, `"\udfff"`, `"\ude00\ud83d"`, `"\ud800\ud800"`, `"\ud800\u0041"`, `"\ud800\ue000"`, `"\ud800\udbff\udc00"`,
		`"\ud800a"`, `"\ud800\n"`, `"\ud800\"`, `"\ud800\u"`, `"\ud800\udc0"`, `"\ud800\udc0g"`, `"\ud800 \udc00"`, `"\ud83d` + "\xed\xb8\x80\"",
		"[", "]", "[1", "[1,", "[,", "[,]", "[,1]", "[1,]", "[1,,2]", "[1 2]", "[1;2]", "[1}", "[1:2]", "[]]", "[] []", "[\"a\":1]",
		"{", "}", "{,}", "{1:1}", "{a:1}", "{'a':1}", "{null:1}", "{[]:1}", `{"a"}`, `{"a":}`, `{"a":1`, `{"a":1,`, `{"a":1,}`, `{,"a":1}`, `{"a" 1}`, `{"a",1}`, `{"a"::1}`, `{"a":1 "b":2}`, `{"a":1;"b":2}`, `{"a":1]`, `{"a":1}}`, `{"a":1,"b"}`, `{"a`, `{"a\u12":1}`,
	}
	for _, s := range rows {
		if v, fault := json.Parse(s); fault != api.ErrForm || !same(v, api.Json{}) {
			t.Errorf("P2.1: Parse(%.40q): %v, error %d; want nothing, error %d", s, v, fault, api.ErrForm)
		}
	}
}

func TestParseLimits(t *testing.T) {
	white := strings.Repeat(" ", api.MaxSchema)
	arrays, ends := strings.Repeat("[", api.MaxDepth), strings.Repeat("]", api.MaxDepth)
	objects, objectEnds := strings.Repeat(`{"a":`, api.MaxDepth), strings.Repeat("}", api.MaxDepth)
	mixed, mixedEnds := strings.Repeat(`[{"a":`, api.MaxDepth/2), strings.Repeat("}]", api.MaxDepth/2)
	rows := []struct {
		text string
		want api.Errno
	}{
		{white[:api.MaxSchema-1] + "1", api.OK}, {white[:api.MaxSchema-2] + "1 ", api.OK}, {"1" + white[1:], api.OK},
		{white + "1", api.ErrLimit}, {"1" + white, api.ErrLimit}, {white + " ", api.ErrLimit}, {white, api.ErrForm},
		{"x" + white, api.ErrLimit}, {`{"a":1,"a":2}` + white, api.ErrLimit},
		{`"` + strings.Repeat("a", api.MaxSchema-2) + `"`, api.OK}, {`"` + strings.Repeat("a", api.MaxSchema-1) + `"`, api.ErrLimit},
		{arrays + ends, api.OK}, {arrays + "1" + ends, api.OK}, {arrays + `1,"a"` + ends, api.OK},
		{arrays + "[]" + ends, api.ErrLimit}, {arrays + "{}" + ends, api.ErrLimit}, {arrays + "1,[]" + ends, api.ErrLimit},
		{objects + "1" + objectEnds, api.OK}, {objects + "{}" + objectEnds, api.ErrLimit}, {objects + "[]" + objectEnds, api.ErrLimit},
		{mixed + "1" + mixedEnds, api.OK}, {mixed + "[]" + mixedEnds, api.ErrLimit},
		{arrays, api.ErrForm}, {arrays + "[", api.ErrLimit}, {arrays + "{", api.ErrLimit}, {arrays + "]", api.ErrForm}, {objects, api.ErrForm}, {objects + "{", api.ErrLimit},
		{strings.Repeat("[", api.MaxSchema), api.ErrLimit}, {strings.Repeat("[],", 200) + "[]", api.ErrForm},
		{"[" + strings.Repeat("[],", 200) + "[]]", api.OK},
	}
	for _, x := range rows {
		if v, fault := json.Parse(x.text); fault != x.want || fault != api.OK && !same(v, api.Json{}) {
			t.Errorf("P2.1: Parse(%.70q) of %d bytes: error %d; want %d", strings.TrimSpace(x.text), len(x.text), fault, x.want)
		}
	}
}

func TestKeyTwice(t *testing.T) {
	rows := []struct {
		text string
		want api.Errno
	}{
		{`{"a":1,"a":2}`, api.ErrTwice}, {`{"a":1,"b":2,"a":3}`, api.ErrTwice}, {`{"":1,"":1}`, api.ErrTwice}, {`[{"b":{"a":1,"a":1}}]`, api.ErrTwice},
		{`{"a":1,"\u0061":2}`, api.ErrTwice}, {`{"\ud83d\ude00":1,"` + "\U0001f600" + `":2}`, api.ErrTwice}, {`{"\/":1,"/":2}`, api.ErrTwice},
		{`{"a":1,"a"`, api.ErrTwice}, {`{"a":1,"a"x`, api.ErrTwice}, {`{"a":1,"a":x`, api.ErrTwice}, {`{"a":1,"a":2}x`, api.ErrTwice}, {"{\"a\":1,\"a\"\xff", api.ErrTwice},
		{`{"a":1,"a`, api.ErrForm}, {`{"a":1,"a\"`, api.ErrForm}, {`{"a":1,"a":2,"a`, api.ErrTwice}, {`{"a":1;"a":2}`, api.ErrForm}, {`{"a":1.5,"a":2}`, api.ErrForm}, {`{"a","a"}`, api.ErrForm},
		{`{"a":1,"a":` + strings.Repeat("[", 99), api.ErrTwice}, {`{"a":` + strings.Repeat("[", 64) + `,"a":1}`, api.ErrLimit}, {`{"a":` + strings.Repeat("[", 63) + `,"a":1}`, api.ErrForm},
		{strings.Repeat("[", 63) + `{"a":1,"a":[]}`, api.ErrTwice}, {strings.Repeat("[", 63) + `{"a":[],"a":1}`, api.ErrLimit}, {strings.Repeat("[", 63) + `{"a":x,"a":[]}`, api.ErrForm},
		{`{"a":1,"A":2}`, api.OK}, {`{"a":1,"a ":2}`, api.OK}, {"{\"\u00e9\":1,\"e\u0301\":2}", api.OK}, {`{"a":{"a":1}}`, api.OK},
	}
	for _, x := range rows {
		if v, fault := json.Parse(x.text); fault != x.want || fault != api.OK && !same(v, api.Json{}) {
			t.Errorf("P2.1: Parse(%.60q): error %d; want %d", x.text, fault, x.want)
		}
	}
}

func TestRightAndPrint(t *testing.T) {
	one, key := []api.Json{null()}, []string{"a"}
	rows := []struct {
		v    api.Json
		want string // empty: it is not right
	}{
		{api.Json{}, ""}, {api.Json{Kind: -1}, ""}, {api.Json{Kind: 8}, ""}, {api.Json{Kind: 1 << 40}, ""}, {api.Json{Kind: 8, L: one}, ""},
		{null(), "null"}, {api.Json{Kind: api.JFalse}, "false"}, {api.Json{Kind: api.JTrue}, "true"}, {api.Json{Kind: api.JNull, L: []api.Json{}, Keys: []string{}}, "null"},
		{api.Json{Kind: api.JNull, Text: "null"}, ""}, {api.Json{Kind: api.JFalse, Text: " "}, ""}, {api.Json{Kind: api.JTrue, Text: "x"}, ""},
		{api.Json{Kind: api.JNull, L: one}, ""}, {api.Json{Kind: api.JFalse, L: one}, ""}, {api.Json{Kind: api.JTrue, Keys: key}, ""}, {api.Json{Kind: api.JTrue, Keys: key, L: one}, ""},
		{number("0"), "0"}, {number("7"), "7"}, {number("-7"), "-7"}, {number("9999999999999999999"), "9999999999999999999"}, {number("-1000000000000000000"), "-1000000000000000000"},
		{number(""), ""}, {number("-"), ""}, {number("-0"), ""}, {number("00"), ""}, {number("007"), ""}, {number("-07"), ""}, {number("+7"), ""}, {number("7 "), ""}, {number(" 7"), ""}, {number("1.5"), ""}, {number("1e5"), ""}, {number("10000000000000000000"), ""}, {number("-10000000000000000000"), ""}, {number("null"), ""},
		{api.Json{Kind: api.JNumber, Text: "7", L: one}, ""}, {api.Json{Kind: api.JNumber, Text: "7", Keys: key}, ""},
		{text(""), `""`}, {text("a/b\x7f\u00e9\u2028\U0001f600\ufffd"), "\"a/b\x7f\u00e9\u2028\U0001f600\ufffd\""},
		{text(`"\`), `"\"\\"`}, {text("\x00\b\t\n\v\f\r\x1b\x1f\x20"), `"\u0000\u0008\u0009\u000a\u000b\u000c\u000d\u001b\u001f "`}, {text(`\u0041`), `"\\u0041"`},
		{text("\xff"), ""}, {text("a\xc3"), ""}, {text("\xed\xa0\x80"), ""}, {text("\xc0\x80"), ""},
		{api.Json{Kind: api.JString, Text: "a", L: one}, ""}, {api.Json{Kind: api.JString, Keys: key}, ""},
		{array(), "[]"}, {api.Json{Kind: api.JArray, L: []api.Json{}, Keys: []string{}}, "[]"}, {array(number("1"), text("a")), `[1,"a"]`}, {array(array(), object(nil), null(), null()), "[[],{},null,null]"},
		{api.Json{Kind: api.JArray, Text: "a"}, ""}, {api.Json{Kind: api.JArray, Keys: key}, ""}, {api.Json{Kind: api.JArray, Keys: key, L: one}, ""}, {array(null(), api.Json{}), ""}, {array(array(null(), number("-0"))), ""},
		{object(nil), "{}"}, {object([]string{}), "{}"}, {object([]string{"b", "a"}, number("1"), array(text("x"))), `{"b":1,"a":["x"]}`}, {object([]string{"", "\"\n"}, null(), null()), `{"":null,"\"\u000a":null}`},
		{object([]string{"a", "b", "c"}, null(), object([]string{"a"}, null()), object([]string{"a"}, null())), `{"a":null,"b":{"a":null},"c":{"a":null}}`},
		{object(key), ""}, {object(nil, null()), ""}, {object(key, null(), null()), ""}, {object([]string{"a", "b"}, null()), ""}, {object([]string{"a", "a"}, null(), null()), ""}, {object([]string{"a", "b", "a"}, null(), null(), null()), ""}, {object([]string{"", ""}, null(), null()), ""}, {object([]string{"\xff"}, null()), ""},
		{object(key, api.Json{}), ""}, {object(key, text("\xff")), ""}, {api.Json{Kind: api.JObject, Text: "a", Keys: key, L: one}, ""}, {api.Json{Kind: api.JObject, Text: "a"}, ""},
		{chain(64), strings.Repeat("[", 64) + strings.Repeat("]", 64)}, {chain(64, null()), strings.Repeat("[", 64) + "null" + strings.Repeat("]", 64)}, {chain(63, object(key, null())), strings.Repeat("[", 63) + `{"a":null}` + strings.Repeat("]", 63)},
		{chain(65), ""}, {chain(64, object(nil)), ""}, {chain(64, null(), array()), ""}, {chain(1000000), ""},
	}
	for i, x := range rows {
		if is := json.Right(x.v); is != (x.want != "") {
			t.Errorf("P2.2: Right of the row %d: %v", i, is)
		}
		if got := json.Print(x.v); got != x.want {
			t.Errorf("P2.2: Print of the row %d: %q; want %q", i, got, x.want)
		}
		if again, fault := json.Parse(x.want); x.want != "" && (fault != api.OK || !same(again, x.v)) {
			t.Errorf("What follows: the row %d, printed and parsed: %v, error %d", i, again, fault)
		}
	}
}

func TestRightOfLongOnes(t *testing.T) {
	long := text(strings.Repeat("a", api.MaxSchema))
	if !json.Right(long) || len(json.Print(long)) != api.MaxSchema+2 {
		t.Error("P2.2: a value whose text is too long to be parsed is right, and printed")
	}
	var keys []string
	for i := range api.MaxSchema {
		keys = append(keys, strconv.Itoa(i))
	}
	many := object(keys, make([]api.Json, len(keys))...)
	for i := range many.L {
		many.L[i] = null()
	}
	if !json.Right(many) {
		t.Error("P2.2: an object of many keys")
	}
	keys[len(keys)-1] = "0"
	if json.Right(many) {
		t.Error("P2.2: an object whose first key is its last one, too")
	}
}

// within is a value that stands within itself, so that it has no end.
func within() api.Json {
	list := make([]api.Json, 2)
	list[0], list[1] = array(list...), array(list...)
	return list[1]
}

func TestRightEnds(t *testing.T) {
	if v := within(); json.Right(v) || json.Print(v) != "" {
		t.Error("P2.2: a value that has no end is right")
	}
}

func TestGet(t *testing.T) {
	v := parsed(t, `{"b":{"a":1},"a":[2],"":3,"\u00e9":4}`)
	rows := []struct {
		v    api.Json
		key  string
		want string // empty: there is none
	}{
		{v, "b", `{"a":1}`}, {v, "a", "[2]"}, {v, "", "3"}, {v, "\u00e9", "4"}, {v.L[0], "a", "1"},
		{v, "c", ""}, {v, "A", ""}, {v, "b ", ""}, {v, "\xff", ""}, {v, "\xc3", ""}, {v.L[1], "a", ""}, {v.L[2], "", ""}, {object(nil), "", ""}, {array(v), "a", ""},
		{api.Json{}, "", ""}, {text("a"), "a", ""}, {api.Json{Kind: api.JArray, Keys: []string{"a"}, L: []api.Json{null()}}, "a", ""}, {api.Json{Keys: []string{"a"}, L: []api.Json{null()}}, "a", ""},
		{object([]string{"a"}), "a", ""}, {object([]string{"a", "b"}, number("1")), "a", "1"}, {object([]string{"a", "b"}, number("1")), "b", ""}, {object(nil, null()), "", ""},
		{object([]string{"a", "a"}, number("1"), number("2")), "a", "1"},
	}
	for i, x := range rows {
		got, is := json.Get(x.v, x.key)
		if is != (x.want != "") || json.Print(got) != x.want || !is && !same(got, api.Json{}) {
			t.Errorf("P2.2: Get of the row %d: %v, %v; want %q", i, got, is, x.want)
		}
	}
}

// told is what a walk tells, one by one.
func told(v api.Json) string {
	out := ""
	for depth, x := range json.Walk(v) {
		out += strconv.Itoa(depth) + json.Print(x) + ";"
	}
	return out
}

func TestWalk(t *testing.T) {
	rows := []struct{ text, want string }{
		{"7", "07;"}, {"[]", "0[];"}, {"{}", "0{};"}, {`"a"`, `0"a";`},
		{"[1,2]", "0[1,2];11;12;"}, {"[[],[[1],2],3]", "0[[],[[1],2],3];1[];1[[1],2];2[1];31;22;13;"},
		{`{"b":[1,{"c":2}],"a":3}`, `0{"b":[1,{"c":2}],"a":3};1[1,{"c":2}];21;2{"c":2};32;13;`},
	}
	for _, x := range rows {
		if got := told(parsed(t, x.text)); got != x.want {
			t.Errorf("P2.2: Walk of %s: %s; want %s", x.text, got, x.want)
		}
	}
	wrong := api.Json{Kind: 9, Text: "x", L: []api.Json{number("1"), {Kind: api.JString, L: []api.Json{number("2")}}}}
	if got := told(wrong); got != "0;11;1;22;" {
		t.Errorf("P2.2: Walk of what is not right: %s", got)
	}
}

func TestWalkEnds(t *testing.T) {
	v := parsed(t, "[[1,[2]],[3],4]")
	all := 0
	for range json.Walk(v) {
		all++
	}
	if all != 8 {
		t.Fatalf("P2.2: Walk tells %d values; want 8", all)
	}
	walk := json.Walk(v)
	for most := 1; most <= all; most++ {
		n, last := 0, ""
		for _, x := range walk {
			last = json.Print(x)
			if n++; n == most {
				break
			}
		}
		if want := []string{"[[1,[2]],[3],4]", "[1,[2]]", "1", "[2]", "2", "[3]", "3", "4"}[most-1]; n != most || last != want {
			t.Errorf("P2.2: Walk that is ended at %d: %d told, the last one %s; want %s", most, n, last, want)
		}
	}
	calls := 0
	walk(func(int, api.Json) bool { calls++; return false })
	if calls != 1 {
		t.Errorf("P2.2: Walk goes on for %d values where it was told to end at the first one", calls)
	}
}

func TestWalkTellsWhatWasThere(t *testing.T) {
	for _, s := range []string{`{"b":[1,{"c":[2,3]}],"a":{"d":4}}`, strings.Repeat("[", 64) + "1" + strings.Repeat("]", 64)} {
		v := parsed(t, s)
		want := told(v)
		walk := json.Walk(v)
		spoil(v)
		for range 3 {
			got := ""
			for depth, x := range walk {
				got += strconv.Itoa(depth) + json.Print(x) + ";"
				spoil(x)
			}
			if got != want {
				t.Errorf("R1: a walk behind a change of %s: %s; want %s", s, got, want)
			}
		}
	}
}

// nested is n arrays and objects by turns within one another, each with a number beside what it has within it.
func nested(n int) api.Json {
	out := null()
	for i := range n {
		if i%2 == 0 {
			out = array(out, number(strconv.Itoa(i)))
		} else {
			out = object([]string{"a", strconv.Itoa(i)}, out, number("7"))
		}
	}
	return out
}

// TestWalkDeepTellsNewMemory: however deep it is, what is written into what was told is seen nowhere else, be the walk ended early or not (where it is not, all that is told has to stay below 2^31 bytes).
func TestWalkDeepTellsNewMemory(t *testing.T) {
	for _, x := range []struct{ depth, most int }{{64, 200}, {65, 200}, {66, 200}, {80, 200}, {1000, 2001}, {30000, 40}} {
		v := nested(x.depth)
		walk := json.Walk(v)
		spoil(v)
		for range 2 {
			n, want := 0, nested(x.depth)
			for depth, got := range walk {
				if n <= x.depth && (depth != n || !same(got, want)) {
					t.Fatalf("P2.2, R3: %d deep: what is told as number %d, of depth %d, was changed by what was written into others", x.depth, n, depth)
				}
				spoil(got)
				if len(want.L) > 0 {
					want = want.L[0]
				}
				if n++; n == x.most {
					break
				}
			}
			if n != min(x.most, 2*x.depth+1) {
				t.Errorf("P2.2: %d deep: %d are told", x.depth, n)
			}
		}
	}
}

// TestWalkDeepAndWide would not end in time if the work of a walk grew with the square of what it tells.
func TestWalkDeepAndWide(t *testing.T) {
	const depth = 300000
	v := chain(depth, null())
	walk := json.Walk(v)
	v.L[0].L[0] = null()
	for range 2 {
		n := 0
		for at, x := range walk {
			if at != n || (n < depth) != (len(x.L) == 1 && x.Kind == api.JArray) {
				t.Fatalf("P2.2: what is told with the depth %d: %d, %d within", at, x.Kind, len(x.L))
			}
			if n++; len(x.L) == 1 {
				x.L[0] = number("7")
			}
		}
		if n != depth+1 {
			t.Errorf("P2.2: Walk tells %d of a chain of %d", n, depth+1)
		}
	}
	wide := array(make([]api.Json, depth)...)
	n := 0
	for range json.Walk(wide) {
		n++
	}
	if n != depth+1 {
		t.Errorf("P2.2: Walk tells %d of an array of %d", n, depth)
	}
}

func TestHandedInStays(t *testing.T) {
	room := make([]api.Json, 4)
	room[0], room[1], room[2] = number("1"), object([]string{"a"}, array(null())), text("room")
	keys := []string{"x", "y", "room"}
	v := api.Json{Kind: api.JObject, Keys: keys[:2], L: room[:2]}
	want := json.Print(v)
	got, _ := json.Get(v, "y")
	spoil(got)
	for _, x := range json.Walk(v) {
		spoil(x)
	}
	json.Right(v)
	if json.Print(v) != want || room[2].Text != "room" || keys[2] != "room" {
		t.Errorf("R3: what was handed in is %s, with %v behind it; was %s", json.Print(v), room[2], want)
	}
}

func TestHandedOutIsNew(t *testing.T) {
	v := parsed(t, `{"a":{"b":[1,2]},"c":[3]}`)
	got, _ := json.Get(v, "a")
	again, _ := json.Get(v, "a")
	spoil(got)
	if json.Print(again) != `{"b":[1,2]}` {
		t.Errorf("R3: what Get tells hangs on what it told before: %v", again)
	}
	spoil(v)
	if json.Print(again) != `{"b":[1,2]}` {
		t.Errorf("R3: what Get told hangs on what it was told of: %v", again)
	}
	if s := json.Print(parsed(t, `{"a":{"b":[1,2]},"c":[3]}`)); s != `{"a":{"b":[1,2]},"c":[3]}` {
		t.Errorf("R3: what Parse tells hangs on what it told before: %s", s)
	}
	shared := []api.Json{null()}
	twins, _ := json.Get(object([]string{"a"}, array(array(shared...), array(shared...))), "a")
	spoil(twins.L[0])
	if json.Print(twins.L[1]) != "[null]" {
		t.Error("R3: lists of one answer share memory")
	}
}
