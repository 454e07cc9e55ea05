package scope

import (
	"lazyc/api"
	"lazyc/trees"
)

func (r *resolver) typ(t api.Type) api.Type { return r.typeOver(t, func(string) {}) }

// typeOver resolves a type, and shows its variables to examine, from the left to the right.
func (r *resolver) typeOver(t api.Type, examine func(variable string)) api.Type {
	switch t.Op {
	case api.TVar:
		examine(t.Name)
		return api.Type{Op: t.Op, Name: t.Name}
	case api.TCon:
		return api.Type{Op: t.Op, Name: r.typeName(t.Name)}
	}
	return api.Type{Op: t.Op, Kids: trees.Map(t.Kids, func(kid api.Type) api.Type { return r.typeOver(kid, examine) })}
}

func (r *resolver) pred(p api.Pred) api.Pred {
	class := r.typeName(p.Class)
	return api.Pred{Class: class, Type: r.typ(p.Type)}
}
