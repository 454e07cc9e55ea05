package kernel

import (
	"lazyc/api"
	"lazyc/freevars"
)

// freeIn returns the free variables of valid expressions, which stand in one scope.
func freeIn(list ...*api.Kernel) *freevars.Finder {
	f := finder{freevars.New()}
	f.exprs(list)
	return f.Finder
}

// finder collects free variables.
type finder struct {
	*freevars.Finder
}

func (f finder) exprs(list []*api.Kernel) {
	for _, e := range list {
		if e.Op == api.KVar {
			f.Occurrence(e.Name)
		}
		for s := range scopes(e) {
			f.InScope(s.names(), func() { f.exprs(s.parts) })
		}
	}
}
