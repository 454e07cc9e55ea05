// Package shapes tells what a name can be the name of. It belongs to no layer.
package shapes

import (
	"lazyc/api"
	"lazyc/base"
	"lazyc/names"
)

// Shape decides where a name may stand, and how it is written there.
type Shape int

// The shapes of names.
const (
	None Shape = iota
	Var
	Con
	Oper
	ConOper
)

// Of returns the shape of a name, which may be simple, qualified, generated or built in.
func Of(name string) Shape {
	switch names.Classify(name) {
	case api.NameVar:
		return Var
	case api.NameCon:
		return Con
	case api.NameOper:
		return Oper
	case api.NameConOper:
		return ConOper
	}
	if inner, _, ok := names.Base(name); ok {
		return Of(inner)
	}
	if _, simple, ok := names.Split(name); ok {
		return Of(simple)
	}
	if isBrackets(name) {
		return Con
	}
	return None
}

// isBrackets reports whether a name consists of brackets: that of the empty list, or of a tuple constructor.
func isBrackets(name string) bool {
	if name == "[]" {
		return true
	}
	for n := range api.MaxTuple + 1 {
		if tuple := base.Tuple(n); tuple == name && tuple != "" {
			return true
		}
	}
	return false
}

// IsVariable reports whether the shape is that of a variable's name.
func (s Shape) IsVariable() bool { return s == Var || s == Oper }

// IsConstructor reports whether the shape is that of a constructor's name.
func (s Shape) IsConstructor() bool { return s == Con || s == ConOper }

// IsOperator reports whether the shape is that of a name which is written in parentheses where it is no operator.
func (s Shape) IsOperator() bool { return s == Oper || s == ConOper }
