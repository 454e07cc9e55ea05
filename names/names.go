// Package names is layer 1, names: classes, qualification, generated names: see shared/doc/01-names.md.
package names

import (
	"strconv"
	"strings"

	"lazyc/api"
	"lazyc/chars"
)

// shape tells of which characters a string consists.
type shape int

const (
	noShape shape = iota
	wordShape
	symbolShape
)

// Classify returns the class of a name, or 0 if s is not a name.
func Classify(s string) api.NameOp {
	switch shapeOf(s) {
	case wordShape:
		return classOfWord(s)
	case symbolShape:
		return classOfSymbol(s)
	}
	if _, _, ok := Base(s); ok {
		return api.NameMade
	}
	return 0
}

// shapeOf tells whether s is a word, a symbol, or neither of them.
func shapeOf(s string) shape {
	if s == "" || len(s) > api.MaxName {
		return noShape
	}
	found := wordShape
	if chars.IsSymbol(s[0]) {
		found = symbolShape
	} else if !chars.IsStart(s[0]) {
		return noShape
	}
examine:
	for i := 1; i < len(s); i++ {
		switch found {
		case wordShape:
			if chars.IsWord(s[i]) {
				continue examine
			}
		case symbolShape:
			if chars.IsSymbol(s[i]) {
				continue examine
			}
		}
		found = noShape
		break examine
	}
	if found == symbolShape && chars.OnlyMinus(s) {
		return noShape
	}
	return found
}

func classOfWord(word string) api.NameOp {
	switch {
	case isReservedWord(word):
		return api.NameWord
	case chars.IsUpper(word[0]):
		return api.NameCon
	}
	return api.NameVar
}

func classOfSymbol(symbol string) api.NameOp {
	switch {
	case isReservedSymbol(symbol):
		return api.NameSym
	case symbol[0] == ':':
		return api.NameConOper
	}
	return api.NameOper
}

func isReservedWord(word string) bool {
	switch word {
	case "as", "case", "class", "data", "deriving", "do", "else", "hiding", "if", "import", "in", "infix", "infixl", "infixr",
		"instance", "let", "module", "of", "qualified", "then", "where", "_":
		return true
	}
	return false
}

func isReservedSymbol(symbol string) bool {
	switch symbol {
	case "..", "::", "=", "\\", "|", "<-", "->", "@", "~", "=>":
		return true
	}
	return false
}

// isSimple reports whether s is a word or a symbol that is not reserved.
func isSimple(s string) bool {
	switch shapeOf(s) {
	case wordShape:
		return !isReservedWord(s)
	case symbolShape:
		return !isReservedSymbol(s)
	}
	return false
}

// isModule reports whether s may qualify a name.
func isModule(s string) bool { return shapeOf(s) == wordShape && chars.IsUpper(s[0]) }

// isBase reports whether a generated name may be made of s.
func isBase(s string) bool {
	if isSimple(s) {
		return true
	}
	_, _, ok := Split(s)
	return ok
}

// Join returns the qualified name of name in module.
func Join(module, name string) string {
	if !isModule(module) || !isSimple(name) {
		return ""
	}
	return module + "." + name
}

// Split returns the parts of a qualified name; ok reports whether s is one.
func Split(s string) (module, name string, ok bool) {
	module, name, _ = strings.Cut(s, ".")
	if !isModule(module) || !isSimple(name) {
		return "", "", false
	}
	return module, name, true
}

// Made returns the generated name with the given base and number.
func Made(base string, n int) string {
	if n < 0 || !isBase(base) {
		return ""
	}
	return made(base, n)
}

// made is Made for a base that is known to be one.
func made(base string, n int) string { return base + "$" + strconv.Itoa(n) }

// Base returns the part of a generated name before its number, and the number; ok reports whether s is one.
func Base(s string) (base string, n int, ok bool) {
	end := strings.LastIndexByte(s, '$')
	if end < 0 || !isBase(s[:end]) {
		return "", 0, false
	}
	n, ok = number(s[end+1:])
	if !ok {
		return "", 0, false
	}
	return s[:end], n, true
}

// number returns the value of s, if s is how that value is written.
func number(s string) (n int, ok bool) {
	n, err := strconv.Atoi(s)
	// Atoi also accepts signs and leading zeros, which no generated name has.
	if err != nil || n < 0 || strconv.Itoa(n) != s {
		return 0, false
	}
	return n, true
}
