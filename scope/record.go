package scope

import (
	"slices"

	"lazyc/api"
	"lazyc/trees"
)

// record resolves a record construction.
func (r *resolver) record(e api.Expr) api.Expr {
	con := r.value(e.Name)
	return api.Expr{Op: e.Op, Name: con, Fields: r.fields(e.Fields, r.labelsOf(con))}
}

// update resolves a record update, whose labels belong to the type of the first one.
func (r *resolver) update(e api.Expr) api.Expr {
	kids := trees.Map(e.Kids, r.expr)
	owner := ""
	label := r.labelling(func(label string) bool {
		if owner == "" {
			owner = r.owners[label]
		}
		return r.owners[label] == owner
	})
	return api.Expr{Op: e.Op, Kids: kids, Fields: r.fields(e.Fields, label)}
}

// recordPat resolves a record pattern.
func (r *resolver) recordPat(p api.Pat) api.Pat {
	resolved := api.Pat{Op: p.Op, Name: r.value(p.Name)}
	label := r.labelsOf(resolved.Name)
	for i, name := range p.Names {
		resolved.Names = append(resolved.Names, label(name))
		resolved.Kids = append(resolved.Kids, r.pat(p.Kids[i]))
	}
	return resolved
}

func (r *resolver) fields(list []api.Field, label func(string) string) []api.Field {
	return trees.Map(list, func(f api.Field) api.Field {
		name := label(f.Name)
		return api.Field{Name: name, Expr: r.expr(f.Expr)}
	})
}

// labelsOf returns a function that resolves the labels of a constructor.
func (r *resolver) labelsOf(con string) func(name string) string {
	return r.labelling(func(label string) bool { return slices.Contains(r.labels[con], label) })
}

// labelling returns a function that resolves the labels of one list; each of them has to belong there.
func (r *resolver) labelling(belongs func(label string) bool) func(name string) string {
	seen := map[string]bool{}
	return func(name string) string {
		label := r.global(valueSpace, name)
		switch _, isLabel := r.owners[label]; {
		case !isLabel || !belongs(label):
			r.wrong(api.ErrField, name)
		case seen[label]:
			r.wrong(api.ErrTwice, name)
		}
		seen[label] = true
		return label
	}
}
