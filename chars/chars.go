// Package chars classifies the bytes of which names and sources consist.
package chars

import "strings"

const symbols = "!#$%&*+./<=>?@\\^|-~:"

// IsUpper reports whether c is an upper-case letter.
func IsUpper(c byte) bool { return 'A' <= c && c <= 'Z' }

// IsLower reports whether c is a lower-case letter or _, which counts as one.
func IsLower(c byte) bool { return 'a' <= c && c <= 'z' || c == '_' }

// IsDigit reports whether c is a decimal digit.
func IsDigit(c byte) bool { return '0' <= c && c <= '9' }

// IsStart reports whether an identifier may begin with c.
func IsStart(c byte) bool { return IsLower(c) || IsUpper(c) }

// IsWord reports whether an identifier may contain c.
func IsWord(c byte) bool { return IsStart(c) || IsDigit(c) || c == '\'' }

// IsSymbol reports whether an operator may contain c.
func IsSymbol(c byte) bool { return strings.IndexByte(symbols, c) >= 0 }

// OnlyMinus reports whether s consists of two or more minus signs, which begin a comment and are no operator.
func OnlyMinus(s string) bool { return len(s) >= 2 && strings.Trim(s, "-") == "" }

// Run returns the longest sequence of bytes of one kind in s from a byte on.
func Run(s string, from int, is func(byte) bool) string {
	end := from
	for end < len(s) && is(s[end]) {
		end++
	}
	return s[from:end]
}

// NameAt returns the identifier or the run of symbol characters in s from a byte on; it is empty if there is none.
func NameAt(s string, from int) string {
	if from < len(s) && IsStart(s[from]) {
		return Run(s, from, IsWord)
	}
	return Run(s, from, IsSymbol)
}
