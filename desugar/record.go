package desugar

import (
	"lazyc/api"
	"lazyc/kernels"
	"lazyc/trees"
)

// record translates a record construction.
func (t *translator) record(e *api.Expr) api.Kernel {
	entry, ok := t.table.Find(e.Name)
	if !ok {
		return t.wrong(api.ErrScope, e.Name)
	}
	fields := map[int]*api.Expr{}
	for i := range e.Fields {
		label := e.Fields[i].Name
		at := position(entry.Con, label)
		switch {
		case at < 0:
			return t.wrong(api.ErrField, label)
		case fields[at] != nil:
			return t.wrong(api.ErrTwice, label)
		}
		fields[at] = &e.Fields[i].Expr
	}
	result := name(e.Name)
	for i := range entry.Con.Fields {
		arg := kernels.NoMatch()
		if fields[i] != nil {
			arg = t.expr(fields[i])
		}
		result = kernels.Apply(result, arg)
	}
	return result
}

// update translates a record update.
func (t *translator) update(e *api.Expr) api.Kernel {
	number := map[string]int{}
	var labels []string
	for i, field := range e.Fields {
		if _, ok := number[field.Name]; ok {
			return t.wrong(api.ErrTwice, field.Name)
		}
		number[field.Name] = i
		labels = append(labels, field.Name)
	}
	data, ok := t.table.Owner(labels[0])
	if !ok {
		return t.wrong(api.ErrScope, labels[0])
	}
	values := t.fresh("u", len(labels))
	operand := t.expr(&e.Kids[0])
	alts := alternatives(data.Cons, labels, t.supply, func(con *api.Con, vars []string) api.Kernel {
		args := trees.Map(vars, kernels.Var)
		for i, label := range labels {
			args[position(con, label)] = kernels.Var(values[i])
		}
		return kernels.Apply(name(con.Name), args...)
	})
	updated := kernels.Lambda(values, kernels.Case(operand, alts...))
	for i := range e.Fields {
		updated = kernels.Apply(updated, t.expr(&e.Fields[i].Expr))
	}
	return updated
}
