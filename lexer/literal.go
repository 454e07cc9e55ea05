package lexer

import (
	"lazyc/api"
	"lazyc/chars"
)

// character reads a character literal.
func (s *scanner) character() (api.Token, bool) {
	s.skip(1)
	c, ok := s.literalChar('\'')
	if !ok {
		return api.Token{}, false
	}
	if s.peek(0) != '\'' {
		return api.Token{}, s.failLiteral()
	}
	s.skip(1)
	return api.Token{Op: api.TokChar, N: int(c)}, true
}

// text reads a string literal.
func (s *scanner) text() (api.Token, bool) {
	s.skip(1)
	var text []byte
	for s.peek(0) != '"' {
		c, ok := s.literalChar('"')
		if !ok {
			return api.Token{}, false
		}
		text = append(text, c)
		if len(text) > api.MaxString {
			return api.Token{}, s.fail(api.ErrLong, "")
		}
	}
	s.skip(1)
	return api.Token{Op: api.TokString, Text: string(text)}, true
}

// failLiteral records what is wrong with a literal that cannot be continued with the byte here.
func (s *scanner) failLiteral() bool {
	if !s.ended() && !isSourceByte(s.peek(0)) {
		return s.failHere()
	}
	return s.fail(api.ErrQuote, "")
}

// literalChar reads one literal character of a literal that the given quote encloses.
func (s *scanner) literalChar(quote byte) (byte, bool) {
	c := s.peek(0)
	if c == '\\' {
		s.skip(1)
		return s.escape()
	}
	if c == quote || !isPrintable(c) {
		return 0, s.failLiteral()
	}
	s.skip(1)
	return c, true
}

// escape reads an escape, after its backslash.
func (s *scanner) escape() (byte, bool) {
	c := s.peek(0)
	switch c {
	case 'n':
		c = '\n'
	case 't':
		c = '\t'
	case '\\', '\'', '"':
	case 'x':
		s.skip(1)
		return s.hexadecimal()
	default:
		return 0, s.failLiteral()
	}
	s.skip(1)
	return c, true
}

// hexadecimal reads two hexadecimal digits.
func (s *scanner) hexadecimal() (byte, bool) {
	var n byte
	for range 2 {
		digit, ok := hexValue(s.peek(0))
		if !ok {
			return 0, s.failLiteral()
		}
		n = 16*n + digit
		s.skip(1)
	}
	return n, true
}

func hexValue(c byte) (byte, bool) {
	switch {
	case chars.IsDigit(c):
		return c - '0', true
	case 'a' <= c && c <= 'f':
		return c - 'a' + 10, true
	case 'A' <= c && c <= 'F':
		return c - 'A' + 10, true
	}
	return 0, false
}
