package derive

import (
	"lazyc/api"
	"lazyc/names"
)

// rule is how the method of a class compares the values of a data type.
type rule struct {
	method string
	// fields returns the comparison of a field of two values with the same constructor, where rest is that of the later fields.
	fields func(a, b string, rest api.Expr) api.Expr
	// others returns the clauses that follow that of constructor number i, for values with different constructors.
	others func(cons []api.ConDecl, i int) []api.Clause
}

// ruleOf returns the rule of a class; ok reports whether the class is derivable.
func ruleOf(class string) (r rule, ok bool) {
	module, name, _ := names.Split(class)
	switch name {
	case "Eq":
		return equality(names.Join(module, "==")), true
	case "Ord":
		return order(names.Join(module, "<=")), true
	}
	return rule{}, false
}

// equality is the rule of Eq: all fields are equal.
func equality(op string) rule {
	return rule{
		method: op,
		fields: func(a, b string, rest api.Expr) api.Expr {
			return conditional(apply(op, a, b), rest, truth(false))
		},
		others: func(cons []api.ConDecl, i int) []api.Clause {
			if len(cons) == 1 || i < len(cons)-1 {
				return nil
			}
			return []api.Clause{clause(wild(), wild(), truth(false))}
		},
	}
}

// order is the rule of Ord: the first fields that differ decide, and the constructors are ascending.
func order(op string) rule {
	return rule{
		method: op,
		fields: func(a, b string, rest api.Expr) api.Expr {
			same := conditional(apply(op, b, a), rest, truth(true))
			return conditional(apply(op, a, b), same, truth(false))
		},
		others: func(cons []api.ConDecl, i int) []api.Clause {
			if i == len(cons)-1 {
				return nil
			}
			return []api.Clause{
				clause(anyOf(cons[i]), wild(), truth(true)),
				clause(wild(), anyOf(cons[i]), truth(false)),
			}
		},
	}
}

// clauses returns the clauses of the method.
func (r rule) clauses(cons []api.ConDecl, supply *names.Supply) []api.Clause {
	if len(cons) == 0 {
		return []api.Clause{clause(wild(), wild(), truth(true))}
	}
	var list []api.Clause
	for i, con := range cons {
		list = append(list, r.same(con, supply))
		list = append(list, r.others(cons, i)...)
	}
	return list
}

// same returns the clause for two values with the same constructor.
func (r rule) same(con api.ConDecl, supply *names.Supply) api.Clause {
	as, bs := fresh("a", con, supply), fresh("b", con, supply)
	body := truth(true)
	for i := len(as) - 1; i >= 0; i-- {
		body = r.fields(as[i], bs[i], body)
	}
	return clause(application(con, as), application(con, bs), body)
}

// fresh returns a variable for each field of a constructor.
func fresh(base string, con api.ConDecl, supply *names.Supply) []string {
	var list []string
	for range con.Fields {
		list = append(list, supply.Fresh(base))
	}
	return list
}

func application(con api.ConDecl, variables []string) api.Pat {
	p := api.Pat{Op: api.PCon, Name: con.Name}
	for _, name := range variables {
		p.Kids = append(p.Kids, api.Pat{Op: api.PVar, Name: name})
	}
	return p
}

// anyOf returns the pattern for all values with a constructor.
func anyOf(con api.ConDecl) api.Pat {
	p := api.Pat{Op: api.PCon, Name: con.Name}
	for range con.Fields {
		p.Kids = append(p.Kids, wild())
	}
	return p
}

func wild() api.Pat { return api.Pat{Op: api.PWild} }

func clause(left, right api.Pat, body api.Expr) api.Clause {
	return api.Clause{Pats: []api.Pat{left, right}, Rhs: []api.Rhs{{Body: body}}}
}

func truth(is bool) api.Expr {
	if is {
		return api.Expr{Op: api.ECon, Name: "True"}
	}
	return api.Expr{Op: api.ECon, Name: "False"}
}

func conditional(condition, then, otherwise api.Expr) api.Expr {
	return api.Expr{Op: api.EIf, Kids: []api.Expr{condition, then, otherwise}}
}

// apply returns the application of an operator to two variables.
func apply(op, x, y string) api.Expr {
	e := api.Expr{Op: api.EVar, Name: op}
	for _, name := range []string{x, y} {
		e = api.Expr{Op: api.EApp, Kids: []api.Expr{e, {Op: api.EVar, Name: name}}}
	}
	return e
}
