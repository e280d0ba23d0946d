package json_test

import (
	"bytes"
	library "encoding/json"
	"io"
	"math/rand"
	"strings"
	"testing"
	"unicode/utf8"

	"courant/api"
	"courant/json"
)

// model is a text's value by the Go library's reader, which keeps to the same words but for what judge holds against them.
type model struct {
	reader *library.Decoder
	fault  api.Errno
}

// judge is what Parse should answer of a text whose strings are whole: no half of a pair and no wrong UTF-8, which the library mends instead of refusing.
func judge(s string) (api.Json, api.Errno) {
	m := &model{reader: library.NewDecoder(strings.NewReader(s))}
	m.reader.UseNumber()
	v := m.value(0)
	if m.fault == api.OK {
		if _, err := m.reader.Token(); err != io.EOF {
			m.fault = api.ErrForm
		}
	}
	// The library's tokens let some signs between members go by, which its check of the whole does not.
	if m.fault == api.OK && !library.Valid([]byte(s)) {
		m.fault = api.ErrForm
	}
	if m.fault != api.OK {
		return api.Json{}, m.fault
	}
	return v, api.OK
}

func (m *model) value(depth int) api.Json {
	if m.fault != api.OK {
		return api.Json{}
	}
	token, err := m.reader.Token()
	if err != nil {
		m.fault = api.ErrForm
		return api.Json{}
	}
	switch x := token.(type) {
	case nil:
		return api.Json{Kind: api.JNull}
	case bool:
		if x {
			return api.Json{Kind: api.JTrue}
		}
		return api.Json{Kind: api.JFalse}
	case library.Number:
		return m.number(x.String())
	case string:
		return api.Json{Kind: api.JString, Text: x}
	case library.Delim:
		return m.nest(x, depth)
	}
	return api.Json{}
}

func (m *model) number(s string) api.Json {
	if strings.ContainsAny(s, ".eE") || len(strings.TrimLeft(s, "-")) > 19 {
		m.fault = api.ErrForm
	}
	if s == "-0" {
		s = "0"
	}
	return api.Json{Kind: api.JNumber, Text: s}
}

func (m *model) nest(open library.Delim, depth int) api.Json {
	out := api.Json{Kind: api.JArray}
	if open == '{' {
		out.Kind = api.JObject
	}
	if depth >= 64 {
		m.fault = api.ErrLimit
	}
	seen := map[string]bool{}
	for m.fault == api.OK && m.reader.More() {
		if out.Kind == api.JObject {
			token, err := m.reader.Token()
			key, is := token.(string)
			if err != nil || !is {
				m.fault = api.ErrForm
				break
			}
			if seen[key] {
				m.fault = api.ErrTwice
			}
			seen[key] = true
			out.Keys = append(out.Keys, key)
		}
		out.L = append(out.L, m.value(depth+1))
	}
	if m.fault == api.OK {
		if _, err := m.reader.Token(); err != nil {
			m.fault = api.ErrForm
		}
	}
	return out
}

// maker makes random values, and texts of them with white and other ways to write strings.
type maker struct{ *rand.Rand }

func (m maker) word() string {
	pieces := []string{"a", "b", "a", "\u00e9", "\U0001f600", "\"", "\\", "/", "\n", "\x00", "\x1f", "\x7f", "u0041"}
	out := ""
	for range m.Intn(4) {
		out += pieces[m.Intn(len(pieces))]
	}
	return out
}

func (m maker) value(depth int) api.Json {
	kind := m.Intn(9)
	if depth == 0 {
		kind = m.Intn(5)
	}
	switch kind {
	case 0, 1, 2:
		return api.Json{Kind: kind + 1}
	case 3:
		numbers := []string{"0", "1", "-1", "10", "9223372036854775807", "-9999999999999999999"}
		return number(numbers[m.Intn(len(numbers))])
	case 4:
		return text(m.word())
	case 5, 6:
		out := array()
		for range m.Intn(4) {
			out.L = append(out.L, m.value(depth-1))
		}
		return out
	}
	out := object(nil)
	seen := map[string]bool{}
	for range m.Intn(4) {
		if key := m.word(); !seen[key] {
			seen[key] = true
			out.Keys, out.L = append(out.Keys, key), append(out.L, m.value(depth-1))
		}
	}
	return out
}

// change turns, drops, doubles or puts in a few bytes of a text, or makes keys the same.
func (m maker) change(s string) string {
	signs := "[]{}:,\"\\ \n019-.eEtfnu#"
	for range m.Intn(3) {
		at := m.Intn(len(s) + 1)
		to := min(len(s), at+m.Intn(4))
		sign := string(signs[m.Intn(len(signs))])
		switch m.Intn(5) {
		case 0:
			s = s[:at] + s[to:]
		case 1:
			s = s[:at] + sign + s[at:]
		case 2:
			s = s[:at] + sign + s[to:]
		case 3:
			s = s[:at] + s[at:to] + s[at:]
		case 4:
			s = strings.ReplaceAll(s, "b", "a")
		}
	}
	return s
}

func TestPrintedIsParsed(t *testing.T) {
	m := maker{rand.New(rand.NewSource(1))}
	for range 20000 {
		v := m.value(5)
		if !json.Right(v) {
			t.Fatalf("P2.2: not right: %v", v)
		}
		s := json.Print(v)
		again, fault := json.Parse(s)
		if fault != api.OK || !same(again, v) {
			t.Fatalf("What follows: %q, printed and parsed: %v, error %d", s, again, fault)
		}
		var whiter bytes.Buffer
		if err := library.Indent(&whiter, []byte(s), "\r", " \t"); err != nil {
			t.Fatalf("P2.2: Print tells what is no JSON: %q", s)
		}
		if again, fault = json.Parse(whiter.String()); fault != api.OK || !same(again, v) {
			t.Fatalf("P2.1: with white, %q: %v, error %d", whiter.String(), again, fault)
		}
	}
}

func TestParseAsTheLibrary(t *testing.T) {
	m := maker{rand.New(rand.NewSource(2))}
	got := map[api.Errno]int{}
	for range 60000 {
		s := m.change(json.Print(m.value(4)))
		// What the library mends in silence has rows of its own.
		if !utf8.ValidString(s) {
			continue
		}
		want, fault := judge(s)
		v, told := json.Parse(s)
		// Of several faults the library may meet another one first.
		if (told == api.OK) != (fault == api.OK) || !same(v, want) {
			t.Fatalf("P2.1: Parse(%q): %v, error %d; want %v, error %d", s, v, told, want, fault)
		}
		got[told]++
	}
	if got[api.OK] < 1000 || got[api.ErrForm] < 1000 || got[api.ErrTwice] < 10 {
		t.Errorf("too few of a kind: %v", got)
	}
}

// stays holds P2.1's "what stands first counts": a fault that is not the end's is there whatever stands behind it.
func stays(t *testing.T, s string) {
	t.Helper()
	for at := range len(s) {
		_, fault := json.Parse(s[:at])
		if fault != api.ErrTwice && fault != api.ErrLimit {
			continue
		}
		for _, behind := range []string{s[at:], "", "#", "[[[", `"`, "}"} {
			if _, later := json.Parse(s[:at] + behind); later != fault {
				t.Fatalf("P2.1: Parse(%q): error %d; behind %q it was %d", s[:at]+behind, later, s[:at], fault)
			}
		}
		return
	}
}

func TestFirstFaultStays(t *testing.T) {
	m := maker{rand.New(rand.NewSource(3))}
	for range 5000 {
		stays(t, m.change(json.Print(m.value(4))))
	}
	for range 500 {
		open := strings.Repeat("[", 60+m.Intn(5))
		stays(t, open+m.change(json.Print(m.value(4))))
	}
}

func FuzzParse(f *testing.F) {
	for _, s := range []string{`{"a":[1,-0,"\ud83d\ude00"],"b":{}}`, `{"a":1,"a":2}`, "\"\xff\"", strings.Repeat("[", 65)} {
		f.Add(s)
	}
	f.Fuzz(func(t *testing.T, s string) {
		v, fault := json.Parse(s)
		if fault != api.OK {
			if !same(v, api.Json{}) || fault != api.ErrForm && fault != api.ErrLimit && fault != api.ErrTwice {
				t.Fatalf("P2.1: Parse(%q): %v, error %d", s, v, fault)
			}
			return
		}
		if !json.Right(v) || !library.Valid([]byte(s)) || !utf8.ValidString(s) {
			t.Fatalf("P2.1: Parse(%q): %v, which may not be", s, v)
		}
		printed := json.Print(v)
		if again, fault := json.Parse(printed); len(printed) <= api.MaxSchema && (fault != api.OK || !same(again, v)) {
			t.Fatalf("What follows: %q, printed: %q, and parsed: %v, error %d", s, printed, again, fault)
		}
		if want, fault := judge(s); fault != api.OK || !same(v, want) {
			t.Fatalf("P2.1: Parse(%q): %v; the library tells %v, error %d", s, v, want, fault)
		}
	})
}
