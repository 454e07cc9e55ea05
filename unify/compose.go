package unify

import (
	"lazyc/api"
	"lazyc/trees"
	"lazyc/types"
)

// Compose returns the substitution that applies first, and then second.
func Compose(second, first []api.Binding) []api.Binding {
	if !areValid(second) || !areValid(first) {
		return nil
	}
	first, ok := applied(firstOfEach(second), first)
	if !ok {
		return nil
	}
	return firstOfEach(append(first, trees.Map(second, copyBinding)...))
}

// areValid reports whether bindings bind type variables to valid types.
func areValid(list []api.Binding) bool {
	for _, b := range list {
		if types.Check(api.Type{Op: api.TVar, Name: b.Name}) != api.OK || types.Check(b.Type) != api.OK {
			return false
		}
	}
	return true
}

// firstOfEach returns the bindings without those of names that occurred before.
func firstOfEach(list []api.Binding) []api.Binding {
	var kept []api.Binding
	seen := map[string]bool{}
	for _, b := range list {
		if !seen[b.Name] {
			kept = append(kept, b)
		}
		seen[b.Name] = true
	}
	return kept
}

// applied returns bindings with a substitution applied to their types, unless one of these becomes too large.
func applied(substitution, list []api.Binding) ([]api.Binding, bool) {
	byName := map[string]api.Binding{}
	for _, b := range substitution {
		byName[b.Name] = b
	}
	var results []api.Binding
	for _, b := range list {
		// types.Subst examines all bindings that it gets; these are the ones that matter.
		var used []api.Binding
		for _, name := range types.Free(b.Type) {
			if found, ok := byName[name]; ok {
				used = append(used, found)
			}
		}
		t := types.Subst(used, b.Type)
		if t.Op == 0 {
			return nil, false
		}
		results = append(results, api.Binding{Name: b.Name, Type: t})
	}
	return results, true
}

func copyBinding(b api.Binding) api.Binding {
	return api.Binding{Name: b.Name, Type: trees.Type(b.Type)}
}
