package desugar

import (
	"slices"

	"lazyc/api"
	"lazyc/base"
	"lazyc/kernel"
	"lazyc/kernels"
	"lazyc/match"
	"lazyc/names"
	"lazyc/patterns"
	"lazyc/trees"
	"lazyc/types"
)

// translator translates expressions and declarations. It goes on after a fault, but keeps only the first one.
type translator struct {
	datas  []api.Data
	table  *patterns.Table
	supply *names.Supply
	fault  api.Fault
	gap    string // the variable that stands for what is too large, if there is something
}

// newTranslator returns a translator that knows the built-in data types, and others.
func newTranslator(datas []api.Data, s *names.Supply) *translator {
	all := slices.Concat(datas, base.Env().Datas)
	return &translator{datas: all, table: patterns.NewTable(all), supply: s}
}

// note notes a fault, if it is the first one.
func (t *translator) note(fault api.Fault) {
	if t.fault == (api.Fault{}) {
		t.fault = fault
	}
}

// wrong notes a fault, and returns an expression in place of the one that has it.
func (t *translator) wrong(code api.Errno, name string) api.Kernel {
	t.note(api.Fault{Code: code, Name: name})
	return kernels.NoMatch()
}

// check notes the error of a complete translation.
func (t *translator) check(result api.Kernel) {
	if t.fault != (api.Fault{}) {
		return
	}
	code := kernel.Check(result)
	if code != api.ErrArg && t.hasGap(result) {
		code = api.ErrLong
	}
	t.note(api.Fault{Code: code})
}

// bounded returns an expression, or something small in its place that leads to the same error if it is larger than any result may be: else the memory that is needed would grow much faster than the source.
func (t *translator) bounded(e api.Kernel) api.Kernel {
	switch {
	case kernel.Size(e) <= api.MaxTerm:
		return e
	case kernel.Check(e) == api.ErrArg:
		return api.Kernel{}
	}
	return t.leaveGap()
}

// leaveGap returns the variable that stands for what is too large.
func (t *translator) leaveGap() api.Kernel {
	if t.gap == "" {
		t.gap = t.supply.Fresh("gap")
	}
	return kernels.Var(t.gap)
}

// hasGap reports whether something in an expression is too large.
func (t *translator) hasGap(e api.Kernel) bool {
	if t.gap == "" {
		return false
	}
	for part := range kernel.All(e) {
		if part.Op == api.KVar && part.Name == t.gap {
			return true
		}
	}
	return false
}

// fresh returns new variables.
func (t *translator) fresh(base string, n int) []string { return fresh(t.supply, base, n) }

// compile returns the expression that matches variables against rows, and raises NoMatch or does something else if no row matches.
func (t *translator) compile(vars []string, rows []api.Row, otherwise api.Kernel) api.Kernel {
	result, fault := match.Compile(t.datas, vars, rows, otherwise, t.supply)
	t.note(fault)
	return result
}

// schemeOf returns the scheme of a context and a type.
func schemeOf(preds []api.Pred, typ api.Type) api.Scheme {
	s := api.Scheme{Type: types.Apply(typ)}
	var list []string
	for _, pred := range preds {
		s.Preds = append(s.Preds, api.Pred{Class: pred.Class, Type: types.Apply(pred.Type)})
		list = append(list, types.Free(pred.Type)...)
	}
	s.Vars = params(trees.Distinct(append(list, types.Free(typ)...)))
	return s
}

// params returns type variables of the zero kind.
func params(list []string) []api.TyVar {
	return trees.Map(list, func(name string) api.TyVar { return api.TyVar{Name: name} })
}
