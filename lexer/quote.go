package lexer

import (
	"strings"

	"lazyc/api"
)

const hexDigits = "0123456789abcdef"

// Quote returns the literal of a string.
func Quote(s string) string { return quoted(s, '"') }

// QuoteChar returns the literal of a character.
func QuoteChar(n int) string {
	if n < 0 || n > api.MaxChar {
		return ""
	}
	return quoted(string([]byte{byte(n)}), '\'')
}

// quoted writes the bytes of s as literal characters between quotes.
func quoted(s string, quote byte) string {
	var out strings.Builder
	out.WriteByte(quote)
	for i := range len(s) {
		switch c := s[i]; {
		case c == '\n':
			out.WriteString("\\n")
		case c == '\t':
			out.WriteString("\\t")
		case c == '\\' || c == quote:
			out.Write([]byte{'\\', c})
		case isPrintable(c):
			out.WriteByte(c)
		default:
			out.Write([]byte{'\\', 'x', hexDigits[c>>4], hexDigits[c&15]})
		}
	}
	out.WriteByte(quote)
	return out.String()
}
