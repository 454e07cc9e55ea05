package types

import (
	"slices"

	"lazyc/api"
)

// Equal reports whether two types are equal up to the names of bound variables.
func Equal(a, b api.Type) bool { return isValid(a) && isValid(b) && isEqual(a, b, nil) }

// SameKind reports whether two kinds are equal.
func SameKind(a, b api.Kind) bool { return slices.EqualFunc(a.Args, b.Args, SameKind) }

// pair has the names of a quantified variable in two types.
type pair struct {
	a, b string
}

// isEqual is Equal for parts of valid types, inside of the quantifications of the given variables.
func isEqual(a, b api.Type, bound []pair) bool {
	if a.Op != b.Op {
		return false
	}
	switch a.Op {
	case api.TVar:
		return isSameVariable(a.Name, b.Name, bound)
	case api.TCon:
		return a.Name == b.Name
	case api.TForall:
		return SameKind(a.Bound, b.Bound) && isEqual(a.Kids[0], b.Kids[0], append(bound, pair{a.Name, b.Name}))
	}
	return isEqual(a.Kids[0], b.Kids[0], bound) && isEqual(a.Kids[1], b.Kids[1], bound)
}

// isSameVariable reports whether two names mean the same variable: the same quantification, or the same free variable.
func isSameVariable(a, b string, bound []pair) bool {
	for _, p := range slices.Backward(bound) {
		if p.a == a || p.b == b {
			return p == pair{a, b}
		}
	}
	return a == b
}
