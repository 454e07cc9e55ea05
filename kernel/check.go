package kernel

import (
	"lazyc/api"
	"lazyc/names"
	"lazyc/shapes"
	"lazyc/types"
)

// isVariable reports whether a variable may have the name.
func isVariable(name string) bool {
	shape := shapes.Of(name)
	return shape.IsVariable() || shape.IsConstructor() && numberOf(name) > 0
}

// isConstructor reports whether a constructor may have the name.
func isConstructor(name string) bool { return shapes.Of(name).IsConstructor() && numberOf(name) == 0 }

// numberOf returns the number of a generated name, or 0.
func numberOf(name string) int {
	_, number, _ := names.Base(name)
	return number
}

// isFormed reports whether the expression, with all its parts, is well formed.
func isFormed(e *api.Kernel) bool {
	if !isFormedNode(e) {
		return false
	}
	for part := range parts(e) {
		if !isFormed(part) {
			return false
		}
	}
	return true
}

// isFormedNode reports whether a node is well formed, whatever its parts are.
func isFormedNode(e *api.Kernel) bool {
	// The fields that the form has are removed; nothing must remain.
	rest := *e
	formed := true
	switch e.Op {
	case api.KVar:
		formed = isVariable(e.Name)
		rest.Name, rest.Types = "", nil
	case api.KCon:
		formed = isConstructor(e.Name)
		rest.Name, rest.Types = "", nil
	case api.KChar:
		formed = isChar(e.N)
		fallthrough
	case api.KInt:
		rest.N = 0
	case api.KApp:
		formed = len(e.Kids) == 2
		rest.Kids = nil
	case api.KLam:
		formed = isVariable(e.Name) && len(e.Kids) == 1 && len(e.Types) <= 1
		rest.Name, rest.Kids, rest.Types = "", nil, nil
	case api.KLet:
		formed = len(e.Kids) == 1 && areBindings(e.Binds)
		rest.Kids, rest.Binds = nil, nil
	case api.KCase:
		formed = len(e.Kids) == 1 && (len(e.Types) == 0 || len(e.Types) == 2) && areAlternatives(e.Alts)
		rest.Kids, rest.Alts, rest.Types = nil, nil, nil
	case api.KSig:
		formed = len(e.Kids) == 1 && len(e.Sigs) == 1
		rest.Kids, rest.Sigs, rest.Types = nil, nil, nil
	default:
		return false
	}
	return formed && isEmpty(&rest) && areTypes(e.Types) && areSchemes(e.Sigs)
}

// isEmpty reports whether all fields but Op are zero.
func isEmpty(e *api.Kernel) bool {
	return e.Name == "" && e.N == 0 && len(e.Kids) == 0 && len(e.Binds) == 0 && len(e.Alts) == 0 && len(e.Sigs) == 0 && len(e.Types) == 0
}

func isChar(n int) bool { return n >= 0 && n <= api.MaxChar }

func areTypes(list []api.Type) bool {
	for _, t := range list {
		if types.Check(t) != api.OK {
			return false
		}
	}
	return true
}

func areSchemes(list []api.Scheme) bool {
	for _, s := range list {
		// Only a scheme that is not valid has no text.
		if types.PrintScheme(s) == "" {
			return false
		}
	}
	return true
}

func areBindings(list []api.KBind) bool {
	seen := map[string]bool{}
	for i := range list {
		b := &list[i]
		if !isVariable(b.Name) || seen[b.Name] || len(b.Sigs) > 1 || !areSchemes(b.Sigs) {
			return false
		}
		seen[b.Name] = true
	}
	return len(list) > 0
}

// label is what distinguishes the alternatives of a case expression.
type label struct {
	name string
	n    int
}

func areAlternatives(list []api.KAlt) bool {
	seen := map[label]bool{}
	for i := range list {
		a := &list[i]
		mark := label{a.Name, a.N}
		switch {
		case !isAlternative(a):
			return false
		case a.Op == api.AltDefault:
			if i < len(list)-1 {
				return false
			}
		case a.Op != list[0].Op || seen[mark]:
			return false
		}
		seen[mark] = true
	}
	return len(list) > 0
}

// isAlternative reports whether an alternative is well formed by itself.
func isAlternative(a *api.KAlt) bool {
	if a.Op == api.AltCon {
		return isConstructor(a.Name) && a.N == 0 && areVariables(a.Vars)
	}
	if a.Name != "" || len(a.Vars) > 0 {
		return false
	}
	switch a.Op {
	case api.AltInt:
		return true
	case api.AltChar:
		return isChar(a.N)
	}
	return a.Op == api.AltDefault && a.N == 0
}

// areVariables reports whether the names are distinct ones of variables.
func areVariables(list []string) bool {
	seen := map[string]bool{}
	for _, name := range list {
		if !isVariable(name) || seen[name] {
			return false
		}
		seen[name] = true
	}
	return true
}
