package quote_test

import (
	"testing"

	"courant/api"
	"courant/json"
	"courant/quote"
)

func TestText(t *testing.T) {
	rows := map[string]string{"": `""`, "a b": `"a b"`, `"\/`: `"\"\\/"`, "\x00\n\x1f\x20\x7f": `"\u0000\u000a\u001f ` + "\x7f" + `"`, "\u00e9\u2028\U0001f600": "\"\u00e9\u2028\U0001f600\"", "\xff\"\xc3": "\"\xff\\\"\xc3\""}
	for text, want := range rows {
		if got := quote.Text(text); got != want {
			t.Errorf("Text(%q): %s; want %s", text, got, want)
		}
	}
}

// TestAsJSON: what is quoted is parsed again.
func TestAsJSON(t *testing.T) {
	for r := range rune(0x3000) {
		text := "a" + string(r) + string(r) + "b"
		if v, e := json.Parse(quote.Text(text)); e != api.OK || v.Kind != api.JString || v.Text != text {
			t.Errorf("Text(%q) is parsed as %q, error %d", text, v.Text, e)
		}
	}
}
