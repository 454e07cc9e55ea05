package syntax

import (
	"lazyc/api"
	"lazyc/names"
	"lazyc/shapes"
)

// isVariable reports whether a variable may have the name.
func isVariable(name string) bool { return shapes.Of(name).IsVariable() }

// isConstructor reports whether a constructor may have the name.
func isConstructor(name string) bool { return shapes.Of(name).IsConstructor() }

// isSymbol reports whether an operator may have the name.
func isSymbol(name string) bool { return shapes.Of(name) != shapes.None }

// isOperatorShape reports whether a name is written in parentheses where it is no operator.
func isOperatorShape(name string) bool { return shapes.Of(name).IsOperator() }

// isParam reports whether a parameter of a declared type or class may have the name.
func isParam(name string) bool { return names.Classify(name) == api.NameVar }

// isModuleName reports whether a module may have the name.
func isModuleName(name string) bool { return names.Classify(name) == api.NameCon }
