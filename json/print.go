package json

import (
	"courant/api"
	"courant/quote"
)

// Print is the text of a right value, without white.
func Print(v api.Json) string {
	if !Right(v) {
		return ""
	}
	return string(appendValue(nil, v))
}

// appendValue is out, and behind it the text of a right value, which is not nested deeper than calls may be.
func appendValue(out []byte, v api.Json) []byte {
	switch v.Kind {
	case api.JNumber:
		return append(out, v.Text...)
	case api.JString:
		return append(out, quote.Text(v.Text)...)
	case api.JArray:
		return append(appendMembers(append(out, '['), v), ']')
	case api.JObject:
		return append(appendMembers(append(out, '{'), v), '}')
	}
	return append(out, words[v.Kind]...)
}

// appendMembers is out, and behind it what is within an array or an object.
func appendMembers(out []byte, v api.Json) []byte {
	for i, x := range v.L {
		if i > 0 {
			out = append(out, ',')
		}
		if v.Kind == api.JObject {
			out = append(append(out, quote.Text(v.Keys[i])...), ':')
		}
		out = appendValue(out, x)
	}
	return out
}
