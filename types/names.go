package types

import (
	"strings"

	"lazyc/api"
	"lazyc/chars"
	"lazyc/names"
)

// The built-in type constructors that are no tuples.
const (
	arrowName = "->"
	listName  = "[]"
	unitName  = "()"
)

const forallWord = "forall"

// isVarName reports whether a type variable may have the name.
func isVarName(s string) bool {
	if names.Classify(s) == api.NameVar {
		return s != forallWord
	}
	base, _, ok := names.Base(s)
	return ok && names.Classify(base) == api.NameVar
}

// isConName reports whether a type constructor may have the name.
func isConName(s string) bool { return isDeclaredName(s) || isBuiltin(s) }

// isDeclaredName reports whether a type constructor that is not built in, or a class, may have the name.
func isDeclaredName(s string) bool {
	if base, _, ok := names.Base(s); ok {
		s = base
	}
	if _, name, ok := names.Split(s); ok {
		s = name
	}
	class := names.Classify(s)
	return class == api.NameCon || class == api.NameConOper
}

// isOperatorName reports whether the name of a type constructor that is not built in is an operator, which stands in parentheses.
func isOperatorName(s string) bool {
	if base, _, ok := names.Base(s); ok {
		s = base
	}
	return chars.IsSymbol(s[len(s)-1])
}

// isBuiltin reports whether a type constructor with the name is built in.
func isBuiltin(s string) bool {
	return s == arrowName || s == listName || s == unitName || tupleSize(s) > 0
}

// tupleName returns the name of the constructor of tuples with n components.
func tupleName(n int) string { return "(" + strings.Repeat(",", n-1) + ")" }

// tupleSize returns the number of components of the tuples that a constructor makes, or 0 if it is not one of tuples.
func tupleSize(name string) int {
	n := len(name) - 1
	if n < 2 || n > api.MaxTuple || name != tupleName(n) {
		return 0
	}
	return n
}
