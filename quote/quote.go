// Package quote writes strings as JSON has them, for all layers that write JSON alike.
package quote

const (
	blank  = 0x20 // no byte below it stands in a string as it is
	digits = "0123456789abcdef"
)

// Text is the string of JSON that says text, between its quotes. Bytes that are no UTF-8 stand there as they are.
func Text(text string) string {
	out := make([]byte, 0, len(text)+len(`""`))
	out = append(out, '"')
	for _, c := range []byte(text) {
		switch {
		case c == '"' || c == '\\':
			out = append(out, '\\', c)
		case c < blank:
			out = append(out, '\\', 'u', '0', '0', digits[c>>4], digits[c&15])
		default:
			out = append(out, c)
		}
	}
	return string(append(out, '"'))
}
