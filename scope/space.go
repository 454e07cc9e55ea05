package scope

import (
	"lazyc/api"
	"lazyc/names"
)

// space is a name space.
type space int

const (
	typeSpace  space = iota // types and classes
	valueSpace              // values, constructors, labels and methods
	spaces
)

// entity is what a name can mean: a resolved name in a name space.
type entity struct {
	space space
	name  string
}

// simple returns the part of a resolved name behind its module; a built-in name has no module.
func simple(name string) string {
	if _, part, ok := names.Split(name); ok {
		return part
	}
	return name
}

// spaceOf returns the name space in which an element of an export or import list is looked up.
func spaceOf(name string) space {
	switch names.Classify(simple(name)) {
	case api.NameCon, api.NameConOper:
		return typeSpace
	}
	return valueSpace
}
