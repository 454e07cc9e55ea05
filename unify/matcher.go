package unify

import (
	"lazyc/api"
	"lazyc/trees"
	"lazyc/types"
)

// matcher has the types for the variables of a pattern.
type matcher map[string]api.Type

// match finds the types for the variables of a part of the pattern, and reports whether they make it equal to t.
func (m matcher) match(pattern, t api.Type) bool {
	if pattern.Op == api.TVar {
		found, ok := m[pattern.Name]
		if ok {
			return trees.SameType(&found, &t)
		}
		m[pattern.Name] = t
		return true
	}
	return pattern.Op == t.Op && pattern.Name == t.Name && m.matchAll(pattern.Kids, t.Kids)
}

// matchAll is match for the parts of types of the same form.
func (m matcher) matchAll(patterns, list []api.Type) bool {
	for i := range patterns {
		if !m.match(patterns[i], list[i]) {
			return false
		}
	}
	return true
}

// bindings returns the substitution for the variables of the pattern.
func (m matcher) bindings(pattern api.Type) []api.Binding {
	return trees.Map(types.Free(pattern), func(name string) api.Binding {
		return api.Binding{Name: name, Type: trees.Type(m[name])}
	})
}
