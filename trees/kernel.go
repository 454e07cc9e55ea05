package trees

import (
	"slices"

	"lazyc/api"
	"lazyc/types"
)

// Type copies a type.
func Type(t api.Type) api.Type { return types.Apply(t) }

// Scheme copies a scheme.
func Scheme(s api.Scheme) api.Scheme {
	return api.Scheme{Vars: Map(s.Vars, copyTyVar), Preds: Map(s.Preds, copyPred), Type: Type(s.Type)}
}

func copyTyVar(v api.TyVar) api.TyVar { return api.TyVar{Name: v.Name, Kind: copyKind(v.Kind)} }

func copyKind(k api.Kind) api.Kind { return api.Kind{Args: Map(k.Args, copyKind)} }

// Kernel copies a kernel expression.
func Kernel(e api.Kernel) api.Kernel {
	e.Kids = Map(e.Kids, Kernel)
	e.Binds = Map(e.Binds, Bind)
	e.Alts = Map(e.Alts, copyKernelAlt)
	e.Sigs = Map(e.Sigs, Scheme)
	e.Types = Map(e.Types, Type)
	return e
}

// Bind copies a binding.
func Bind(b api.KBind) api.KBind {
	b.Sigs = Map(b.Sigs, Scheme)
	b.Body = Kernel(b.Body)
	return b
}

func copyKernelAlt(a api.KAlt) api.KAlt {
	a.Vars = slices.Clone(a.Vars)
	a.Body = Kernel(a.Body)
	return a
}
