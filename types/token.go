package types

import (
	"strings"

	"lazyc/api"
	"lazyc/chars"
	"lazyc/names"
)

const (
	blanks   = " \t\n"
	brackets = "()[],"
)

// tokensOf divides a text into tokens; ok reports whether that is possible.
func tokensOf(s string) (toks []string, ok bool) {
	for at := 0; at < len(s); {
		if strings.IndexByte(blanks, s[at]) >= 0 {
			at++
			continue
		}
		end := tokenEnd(s, at)
		if end == at {
			return nil, false
		}
		toks = append(toks, s[at:end])
		at = end
	}
	return toks, true
}

// tokenEnd returns where the token that begins at a byte ends; if none begins there, it returns the place of the byte itself.
func tokenEnd(s string, at int) int {
	if strings.IndexByte(brackets, s[at]) >= 0 {
		return at + 1
	}
	name := chars.NameAt(s, at)
	end := at + len(name)
	if names.Classify(name) == api.NameCon && strings.HasPrefix(s[end:], ".") {
		if simple := chars.NameAt(s, end+1); simple != "" {
			name = simple
			end += 1 + len(simple)
		}
	}
	return end + len(suffixOf(name, s[end:]))
}

// suffixOf returns the part of the rest of a text that makes a generated name of the name before it.
func suffixOf(name, rest string) string {
	if name == "" {
		return ""
	}
	if chars.IsSymbol(name[len(name)-1]) {
		// The dollar sign belongs to the operator characters, one of which at least must come before it.
		if len(name) < 2 || !strings.HasSuffix(name, "$") {
			return ""
		}
		return chars.Run(rest, 0, chars.IsDigit)
	}
	if !strings.HasPrefix(rest, "$") {
		return ""
	}
	digits := chars.Run(rest, 1, chars.IsDigit)
	if digits == "" {
		return ""
	}
	return rest[:1+len(digits)]
}
