package kernel

import (
	"iter"

	"lazyc/api"
)

// scope has the names that a node, or one of its alternatives, binds, and the parts in which they are bound.
type scope struct {
	binders []*string
	parts   []*api.Kernel
}

// scopes returns an iterator over the scopes of a node, in order; each of its parts is in one of them. The node may have any form.
func scopes(e *api.Kernel) iter.Seq[scope] {
	return func(yield func(scope) bool) {
		if !yield(ownScope(e)) {
			return
		}
		for i := range e.Alts {
			a := &e.Alts[i]
			s := scope{parts: []*api.Kernel{&a.Body}}
			for j := range a.Vars {
				s.binders = append(s.binders, &a.Vars[j])
			}
			if !yield(s) {
				return
			}
		}
	}
}

// ownScope returns the scope of all parts that are not in alternatives.
func ownScope(e *api.Kernel) scope {
	var s scope
	if e.Op == api.KLam {
		s.binders = append(s.binders, &e.Name)
	}
	for i := range e.Binds {
		s.binders = append(s.binders, &e.Binds[i].Name)
		s.parts = append(s.parts, &e.Binds[i].Body)
	}
	for i := range e.Kids {
		s.parts = append(s.parts, &e.Kids[i])
	}
	return s
}

// names returns the names that are bound.
func (s scope) names() []string {
	var list []string
	for _, binder := range s.binders {
		list = append(list, *binder)
	}
	return list
}

// parts returns an iterator over the parts of a node, in order.
func parts(e *api.Kernel) iter.Seq[*api.Kernel] {
	return func(yield func(*api.Kernel) bool) {
		for s := range scopes(e) {
			for _, part := range s.parts {
				if !yield(part) {
					return
				}
			}
		}
	}
}

// visit calls do for a node and the nodes below it, each one before its parts, until do reports false; it returns what do reported last.
func visit(e *api.Kernel, do func(*api.Kernel) bool) bool {
	if !do(e) {
		return false
	}
	for part := range parts(e) {
		if !visit(part, do) {
			return false
		}
	}
	return true
}

func size(e *api.Kernel) int {
	nodes := 0
	visit(e, func(*api.Kernel) bool {
		nodes++
		return true
	})
	return nodes
}

func depth(e *api.Kernel) int {
	deepest := 0
	for part := range parts(e) {
		deepest = max(deepest, depth(part))
	}
	return deepest + 1
}

// maxCopies bounds the nodes that All copies, so that it needs little time for a very deep expression, too.
const maxCopies = 1 << 21

// isCopiedPerNode reports whether All gives each node memory of its own. The copies of the nodes of a very deep expression would take quadratic time; these share the memory of one copy.
func isCopiedPerNode(e *api.Kernel) bool { return copies(e, 1) <= maxCopies }

// copies returns how many nodes are copied if each node below e, and e itself, is copied with all that is below it; level is how often e itself is.
func copies(e *api.Kernel, level int) int {
	sum := level
	for part := range parts(e) {
		sum += copies(part, level+1)
	}
	return sum
}
