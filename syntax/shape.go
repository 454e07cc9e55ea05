package syntax

import (
	"lazyc/api"
	"lazyc/base"
	"lazyc/names"
)

// shape decides where a name may stand, and how it is written there.
type shape int

const (
	noShape shape = iota
	varShape
	conShape
	operShape
	conOperShape
)

func shapeOf(name string) shape {
	switch names.Classify(name) {
	case api.NameVar:
		return varShape
	case api.NameCon:
		return conShape
	case api.NameOper:
		return operShape
	case api.NameConOper:
		return conOperShape
	}
	if inner, _, ok := names.Base(name); ok {
		return shapeOf(inner)
	}
	if _, simple, ok := names.Split(name); ok {
		return shapeOf(simple)
	}
	if isBrackets(name) {
		return conShape
	}
	return noShape
}

// isBrackets reports whether a name consists of brackets: that of the empty list, or of a tuple constructor.
func isBrackets(name string) bool {
	if name == "[]" {
		return true
	}
	for n := range api.MaxTuple + 1 {
		if tuple := base.Tuple(n); tuple == name && tuple != "" {
			return true
		}
	}
	return false
}

// isVariable reports whether a variable may have the name.
func isVariable(name string) bool {
	shape := shapeOf(name)
	return shape == varShape || shape == operShape
}

// isConstructor reports whether a constructor may have the name.
func isConstructor(name string) bool {
	shape := shapeOf(name)
	return shape == conShape || shape == conOperShape
}

// isSymbol reports whether an operator may have the name.
func isSymbol(name string) bool { return shapeOf(name) != noShape }

// isOperatorShape reports whether a name is written in parentheses where it is no operator.
func isOperatorShape(name string) bool {
	shape := shapeOf(name)
	return shape == operShape || shape == conOperShape
}

// isParam reports whether a parameter of a declared type or class may have the name.
func isParam(name string) bool { return names.Classify(name) == api.NameVar }

// isModuleName reports whether a module may have the name.
func isModuleName(name string) bool { return names.Classify(name) == api.NameCon }
