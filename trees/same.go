package trees

import (
	"slices"

	"lazyc/api"
	"lazyc/types"
)

// Equal reports whether two lists have the same length, and equal elements.
func Equal[T any](a, b []T, same func(a, b *T) bool) bool {
	if len(a) != len(b) {
		return false
	}
	for i := range a {
		if !same(&a[i], &b[i]) {
			return false
		}
	}
	return true
}

// SameType compares all fields of types, and not only up to the names of quantified variables.
func SameType(a, b *api.Type) bool {
	return a.Op == b.Op && a.Name == b.Name && types.SameKind(a.Bound, b.Bound) && Equal(a.Kids, b.Kids, SameType)
}

// SamePred compares all fields of constraints.
func SamePred(a, b *api.Pred) bool { return a.Class == b.Class && SameType(&a.Type, &b.Type) }

// SameScheme compares all fields of schemes.
func SameScheme(a, b *api.Scheme) bool {
	return Equal(a.Vars, b.Vars, sameTyVar) && Equal(a.Preds, b.Preds, SamePred) && SameType(&a.Type, &b.Type)
}

func sameTyVar(a, b *api.TyVar) bool { return a.Name == b.Name && types.SameKind(a.Kind, b.Kind) }

// SameKernel compares all fields of kernel expressions.
func SameKernel(a, b *api.Kernel) bool {
	return a.Op == b.Op && a.Name == b.Name && a.N == b.N && Equal(a.Kids, b.Kids, SameKernel) &&
		Equal(a.Binds, b.Binds, sameBind) && Equal(a.Alts, b.Alts, sameKernelAlt) &&
		Equal(a.Sigs, b.Sigs, SameScheme) && Equal(a.Types, b.Types, SameType)
}

func sameBind(a, b *api.KBind) bool {
	return a.Name == b.Name && a.Plain == b.Plain && Equal(a.Sigs, b.Sigs, SameScheme) && SameKernel(&a.Body, &b.Body)
}

func sameKernelAlt(a, b *api.KAlt) bool {
	return a.Op == b.Op && a.Name == b.Name && a.N == b.N && slices.Equal(a.Vars, b.Vars) && SameKernel(&a.Body, &b.Body)
}
