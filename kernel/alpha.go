package kernel

import (
	"slices"

	"lazyc/api"
	"lazyc/trees"
)

// levels has, for a name that is bound around the present place, the numbers of its scopes, the innermost one last.
type levels map[string][]int

// of returns the number of the innermost scope of a name, or 0 if it is free.
func (l levels) of(name string) int {
	if list := l[name]; len(list) > 0 {
		return list[len(list)-1]
	}
	return 0
}

func (l levels) enter(name string, number int) { l[name] = append(l[name], number) }

func (l levels) leave(name string) { l[name] = l[name][:len(l[name])-1] }

// matcher compares two valid expressions up to the names of bound variables. Binders at the same place have the same number.
type matcher struct {
	left, right levels
	binders     int // how many binders there are around the present place
}

func (m *matcher) same(a, b *api.Kernel) bool {
	if !isAlike(a, b) {
		return false
	}
	if a.Op == api.KVar {
		number := m.left.of(a.Name)
		return number == m.right.of(b.Name) && (number > 0 || a.Name == b.Name)
	}
	theirs := slices.Collect(scopes(b))
	place := 0
	for ours := range scopes(a) {
		if !m.sameScope(ours, theirs[place]) {
			return false
		}
		place++
	}
	return true
}

// sameScope compares the parts of two scopes.
func (m *matcher) sameScope(a, b scope) bool {
	if len(a.binders) != len(b.binders) || len(a.parts) != len(b.parts) {
		return false
	}
	for i := range a.binders {
		m.binders++
		m.left.enter(*a.binders[i], m.binders)
		m.right.enter(*b.binders[i], m.binders)
	}
	same := true
	for i := 0; same && i < len(a.parts); i++ {
		same = m.same(a.parts[i], b.parts[i])
	}
	for i := range a.binders {
		m.binders--
		m.left.leave(*a.binders[i])
		m.right.leave(*b.binders[i])
	}
	return same
}

// isAlike reports whether two nodes are equal apart from the names of variables, the annotations, and the parts; they have as many alternatives.
func isAlike(a, b *api.Kernel) bool {
	return a.Op == b.Op && (a.Op != api.KCon || a.Name == b.Name) && a.N == b.N &&
		trees.Equal(a.Sigs, b.Sigs, trees.SameScheme) &&
		trees.Equal(a.Binds, b.Binds, func(a, b *api.KBind) bool { return a.Plain == b.Plain }) &&
		trees.Equal(a.Alts, b.Alts, func(a, b *api.KAlt) bool { return a.Op == b.Op && a.Name == b.Name && a.N == b.N })
}
