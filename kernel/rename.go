package kernel

import (
	"slices"

	"lazyc/api"
	"lazyc/freevars"
	"lazyc/names"
)

// rename renames a free variable in an expression that the caller owns.
func rename(e *api.Kernel, from, to string) {
	if e.Op == api.KVar && e.Name == from {
		e.Name = to
	}
	for s := range scopes(e) {
		if s.binder(from) == nil {
			s.makeRoom(from, to)
			s.rename(from, to)
		}
	}
}

// rename renames a variable in all parts of a scope.
func (s scope) rename(from, to string) {
	for _, part := range s.parts {
		rename(part, from, to)
	}
}

// makeRoom gives the binder with the name to, if there is one, another name if it would capture the variable from.
func (s scope) makeRoom(from, to string) {
	binder := s.binder(to)
	if binder == nil {
		return
	}
	if free := freeIn(s.parts...); free.Has(from) {
		other := s.newName(to, free)
		s.rename(to, other)
		*binder = other
	}
}

// binder returns the binder with a name, or nil.
func (s scope) binder(name string) *string {
	i := slices.IndexFunc(s.binders, func(binder *string) bool { return *binder == name })
	if i < 0 {
		return nil
	}
	return s.binders[i]
}

// newName returns the name that the binder with the name to gets; free are the variables of the scope. The variable that is to be captured is one of them.
func (s scope) newName(to string, free *freevars.Finder) string {
	base := to
	if inner, _, ok := names.Base(to); ok {
		base = inner
	}
	taken := map[string]bool{}
	for _, name := range s.names() {
		taken[name] = true
	}
	for k := 1; ; k++ {
		if name := names.Made(base, k); !taken[name] && !free.Has(name) {
			return name
		}
	}
}
