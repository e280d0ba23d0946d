package json

import (
	"courant/api"
	"strconv"
	"strings"
	"unicode/utf8"
)

const (
	mostDigits = 19
	blank      = 0x20 // no byte below it stands in a string

	// Two signs of 16 bits make one above those: a high one and a low one, with ten bits of it each.
	highFrom  = 0xd800
	lowFrom   = 0xdc00
	pairUntil = 0xe000
	aboveAll  = 0x10000
)

var words = [...]string{api.JNull: "null", api.JFalse: "false", api.JTrue: "true"}

// parser stands at the byte of its text that is read next.
type parser struct {
	text string
	at   int
}

// Parse is the value that a text is. It reads the text once from its front, so that the first fault is the one that is told.
func Parse(text string) (api.Json, api.Errno) {
	if len(text) > api.MaxSchema {
		return api.Json{}, api.ErrLimit
	}
	p := &parser{text: text}
	v, fault := p.value(0)
	if fault != api.OK {
		return api.Json{}, fault
	}
	p.white()
	if p.at < len(p.text) {
		return api.Json{}, api.ErrForm
	}
	return v, api.OK
}

// value reads a value that stands within so many others.
func (p *parser) value(depth int) (api.Json, api.Errno) {
	switch p.sign() {
	case '[':
		return p.nest(api.JArray, ']', depth)
	case '{':
		return p.nest(api.JObject, '}', depth)
	case '"':
		text, fault := p.quoted()
		if fault != api.OK {
			return api.Json{}, fault
		}
		return api.Json{Kind: api.JString, Text: text}, api.OK
	}
	if size := numeral(p.text[p.at:]); size > 0 {
		return p.number(size), api.OK
	}
	return p.word()
}

// nest reads an array or an object, with the byte that ends it.
func (p *parser) nest(kind int, end byte, depth int) (api.Json, api.Errno) {
	if depth >= api.MaxDepth {
		return api.Json{}, api.ErrLimit
	}
	p.at++
	out := api.Json{Kind: kind}
	if p.sign() == end {
		p.at++
		return out, api.OK
	}
	seen := map[string]struct{}{}
members:
	for {
		if kind == api.JObject {
			key, fault := p.key(seen)
			if fault != api.OK {
				return api.Json{}, fault
			}
			out.Keys = append(out.Keys, key)
		}
		v, fault := p.value(depth + 1)
		if fault != api.OK {
			return api.Json{}, fault
		}
		out.L = append(out.L, v)
		switch p.take() {
		case ',':
			continue members
		case end:
			break members
		}
		return api.Json{}, api.ErrForm
	}
	return out, api.OK
}

// key reads a key that none of those seen is, and the colon behind it.
func (p *parser) key(seen map[string]struct{}) (string, api.Errno) {
	if p.sign() != '"' {
		return "", api.ErrForm
	}
	key, fault := p.quoted()
	if fault != api.OK {
		return "", fault
	}
	if _, twice := seen[key]; twice {
		return "", api.ErrTwice
	}
	seen[key] = struct{}{}
	if p.take() != ':' {
		return "", api.ErrForm
	}
	return key, api.OK
}

// quoted reads a string from its first quote on.
func (p *parser) quoted() (string, api.Errno) {
	p.at++
	var out []byte
signs:
	for p.at < len(p.text) {
		switch c := p.text[p.at]; {
		case c == '"':
			p.at++
			return string(out), api.OK
		case c == '\\':
			r, right := p.escape()
			if !right {
				break signs
			}
			out = utf8.AppendRune(out, r)
			continue signs
		case c < blank:
			break signs
		}
		r, size := utf8.DecodeRuneInString(p.text[p.at:])
		if r == utf8.RuneError && size == 1 {
			break signs
		}
		out = append(out, p.text[p.at:p.at+size]...)
		p.at += size
	}
	return "", api.ErrForm
}

// escape reads a sign that is told by a backslash and what is behind it.
func (p *parser) escape() (rune, bool) {
	if p.at+1 >= len(p.text) {
		return 0, false
	}
	c := p.text[p.at+1]
	if c == 'u' {
		return p.coded()
	}
	p.at += 2
	switch c {
	case '"', '\\', '/':
		return rune(c), true
	case 'b':
		return '\b', true
	case 'f':
		return '\f', true
	case 'n':
		return '\n', true
	case 'r':
		return '\r', true
	case 't':
		return '\t', true
	}
	return 0, false
}

// coded reads a sign that is told by its number, or by those of a pair.
func (p *parser) coded() (rune, bool) {
	high, right := p.unit()
	if !right || high < highFrom || high >= pairUntil {
		return high, right
	}
	if high >= lowFrom {
		return 0, false
	}
	low, right := p.unit()
	if !right || low < lowFrom || low >= pairUntil {
		return 0, false
	}
	return aboveAll + (high-highFrom)<<10 + (low - lowFrom), true
}

// unit reads \u and four digits of 16.
func (p *parser) unit() (rune, bool) {
	const size = len(`\u0000`)
	rest := p.text[p.at:]
	if len(rest) < size || !strings.HasPrefix(rest, `\u`) {
		return 0, false
	}
	v, err := strconv.ParseUint(rest[2:size], 16, 16)
	if err != nil {
		return 0, false
	}
	p.at += size
	return rune(v), true
}

// number reads a number of that many bytes.
func (p *parser) number(size int) api.Json {
	text := p.text[p.at : p.at+size]
	p.at += size
	if text == "-0" {
		text = "0"
	}
	return api.Json{Kind: api.JNumber, Text: text}
}

// word reads null, false or true.
func (p *parser) word() (api.Json, api.Errno) {
kinds:
	for kind, word := range words {
		if word == "" {
			continue kinds
		}
		if strings.HasPrefix(p.text[p.at:], word) {
			p.at += len(word)
			return api.Json{Kind: kind}, api.OK
		}
	}
	return api.Json{}, api.ErrForm
}

// sign is the next byte that is not white, which stays the next one; 0 at the end, which like a byte 0 is nothing that may stand there.
func (p *parser) sign() byte {
	p.white()
	if p.at == len(p.text) {
		return 0
	}
	return p.text[p.at]
}

// take reads the next byte that is not white; 0 at the end.
func (p *parser) take() byte {
	c := p.sign()
	if p.at < len(p.text) {
		p.at++
	}
	return c
}

// white goes behind what is white.
func (p *parser) white() {
signs:
	for p.at < len(p.text) {
		switch p.text[p.at] {
		case ' ', '\t', '\n', '\r':
			p.at++
			continue signs
		}
		break signs
	}
}

// numeral is how many bytes the number has that a text begins with; 0, if it begins with none, or with one that is too long.
func numeral(text string) int {
	first := len(text) - len(strings.TrimPrefix(text, "-"))
	at := first
digits:
	for at < len(text) && at-first <= mostDigits {
		switch c := text[at]; {
		case c < '0' || c > '9':
			break digits
		case c == '0' && at == first:
			return at + 1 // a number that begins with 0 ends there
		}
		at++
	}
	if at == first || at-first > mostDigits {
		return 0
	}
	return at
}
