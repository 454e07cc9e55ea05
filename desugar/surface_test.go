package desugar

import (
	"slices"

	"lazyc/api"
	"lazyc/patterns"
	"lazyc/syntax"
)

// surface evaluates surface expressions directly, by DOC.md, "Meaning".
type surface struct {
	*evaluator
	table *patterns.Table
	datas []api.Data
}

func (ev surface) later(e *api.Expr, s *locals) *thunk {
	return delay(func() value { return ev.eval(e, s) })
}

func (ev surface) eval(e *api.Expr, s *locals) value {
	ev.step()
	apply := func(f value, args ...*thunk) value {
		for _, arg := range args {
			f = f.(function)(arg)
		}
		return f
	}
	named := func(name string) value {
		if _, ok := ev.table.Find(name); ok {
			return ev.constructor(name)
		}
		return s.find(name).force()
	}
	kid := func(i int) *thunk { return ev.later(&e.Kids[i], s) }
	switch e.Op {
	case api.EVar, api.ECon:
		return named(e.Name)
	case api.EInt:
		return e.N
	case api.EChar:
		return rune(e.N)
	case api.EString:
		var list []*thunk
		for _, c := range e.Text {
			list = append(list, done(c))
		}
		return listOf(list)
	case api.EApp:
		return apply(ev.eval(&e.Kids[0], s), kid(1))
	case api.ENeg:
		return -ev.eval(&e.Kids[0], s).(int)
	case api.ELam:
		clauses := []api.Clause{{Pats: e.Pats, Rhs: []api.Rhs{{Body: e.Kids[0]}}}}
		return ev.clauses(clauses, s)
	case api.ELet:
		return ev.eval(&e.Kids[0], ev.bind(e.Decls, s))
	case api.EIf:
		if isTrue(ev.eval(&e.Kids[0], s)) {
			return ev.eval(&e.Kids[1], s)
		}
		return ev.eval(&e.Kids[2], s)
	case api.ECase:
		var clauses []api.Clause
		for _, a := range e.Alts {
			clauses = append(clauses, api.Clause{Pats: []api.Pat{a.Pat}, Rhs: a.Rhs, Where: a.Where})
		}
		return apply(ev.clauses(clauses, s), kid(0))
	case api.EDo:
		return ev.do(e.Names, e.Stmts, s)
	case api.ETuple, api.EList:
		var list []*thunk
		for i := range e.Kids {
			list = append(list, kid(i))
		}
		if e.Op == api.EList {
			return listOf(list)
		}
		return constructed{[]string{"()", "", "(,)", "(,,)"}[len(list)], list}
	case api.EComp:
		return ev.comprehension(&e.Kids[0], e.Stmts, s)
	case api.ERange:
		first := kid(0).force().(int)
		return count(first, ev.eval(&e.Kids[1], s).(int))
	case api.ELeft:
		return apply(named(e.Name), kid(0))
	case api.ERight:
		return function(func(x *thunk) value { return apply(named(e.Name), x, kid(0)) })
	case api.ESig:
		return ev.eval(&e.Kids[0], s)
	case api.ERecord:
		return ev.record(e, s)
	}
	return ev.update(e, s)
}

func listOf(elements []*thunk) value {
	all := value(constructed{name: "[]"})
	for _, x := range slices.Backward(elements) {
		all = constructed{":", []*thunk{x, done(all)}}
	}
	return all
}

func count(from, to int) value {
	if from > to {
		return listOf(nil)
	}
	return constructed{":", []*thunk{done(from), delay(func() value { return count(from+1, to) })}}
}

func noMatch() value { panic(raised{"NoMatch"}) }

func (ev surface) record(e *api.Expr, s *locals) value {
	entry, _ := ev.table.Find(e.Name)
	c := constructed{name: e.Name}
	for _, label := range entry.Con.Labels {
		field := delay(noMatch)
		for i := range e.Fields {
			if e.Fields[i].Name == label {
				field = ev.later(&e.Fields[i].Expr, s)
			}
		}
		c.fields = append(c.fields, field)
	}
	return c
}

func (ev surface) update(e *api.Expr, s *locals) value {
	c := ev.eval(&e.Kids[0], s).(constructed)
	entry, _ := ev.table.Find(c.name)
	c.fields = slices.Clone(c.fields)
	for i := range e.Fields {
		at := slices.Index(entry.Con.Labels, e.Fields[i].Name)
		if at < 0 {
			return noMatch()
		}
		c.fields[at] = ev.later(&e.Fields[i].Expr, s)
	}
	return c
}

// clauses returns the function with these clauses, or its value if they have no patterns.
func (ev surface) clauses(list []api.Clause, s *locals) value {
	return curried(len(list[0].Pats), func(args []*thunk) value {
		for i := range list {
			inner, ok := s, true
			for j := range args {
				if inner, ok = ev.match(list[i].Pats[j], args[j], inner); !ok {
					break
				}
			}
			if ok {
				if v := ev.rhs(list[i].Rhs, list[i].Where, inner); v != nil {
					return v
				}
			}
		}
		return noMatch()
	})
}

// rhs returns the value of the first right-hand side whose guard holds, or nil.
func (ev surface) rhs(list []api.Rhs, where []api.Decl, s *locals) value {
	s = ev.bind(where, s)
	for i := range list {
		if len(list[i].Guard) == 0 || isTrue(ev.eval(&list[i].Guard[0], s)) {
			return ev.eval(&list[i].Body, s)
		}
	}
	return nil
}

// bind returns the scope of declarations, which may refer to each other.
func (ev surface) bind(decls []api.Decl, s *locals) *locals {
	for i := range decls {
		d := &decls[i]
		switch d.Op {
		case api.DFun:
			s = s.with(d.Name, &thunk{})
		case api.DPat:
			for _, name := range syntax.Binders(d.Pat) {
				s = s.with(name, &thunk{})
			}
		}
	}
	for i := range decls {
		d := &decls[i]
		switch d.Op {
		case api.DFun:
			*s.find(d.Name) = *delay(func() value { return ev.clauses(d.Clauses, s) })
		case api.DPat:
			whole := delay(func() value {
				if v := ev.rhs(d.Rhs, d.Where, s); v != nil {
					return v
				}
				return noMatch()
			})
			parts, _ := ev.match(api.Pat{Op: api.PLazy, Kids: []api.Pat{d.Pat}}, whole, nil)
			for ; parts != nil; parts = parts.outer {
				*s.find(parts.name) = *parts.value
			}
		}
	}
	return s
}

// match returns the scope in which the variables of a pattern are bound, if a value matches it.
func (ev surface) match(p api.Pat, v *thunk, s *locals) (*locals, bool) {
	switch p.Op {
	case api.PVar:
		return s.with(p.Name, v), true
	case api.PWild:
		return s, true
	case api.PAs:
		return ev.match(p.Kids[0], v, s.with(p.Name, v))
	case api.PLazy:
		matched := delay(func() value {
			inner, ok := ev.match(p.Kids[0], v, nil)
			if !ok {
				return noMatch()
			}
			return inner
		})
		for _, name := range syntax.Binders(p) {
			s = s.with(name, delay(func() value { return matched.force().(*locals).find(name).force() }))
		}
		return s, true
	case api.PInt:
		return s, v.force().(int) == p.N
	case api.PChar:
		return s, int(v.force().(rune)) == p.N
	}
	p = patterns.Simple(p)
	if p.Op == api.PRecord {
		entry, _ := ev.table.Find(p.Name)
		p = patterns.OfRecord(p, entry.Con)
	}
	c := v.force().(constructed)
	if c.name != p.Name {
		return s, false
	}
	for i := range p.Kids {
		var ok bool
		if s, ok = ev.match(p.Kids[i], c.fields[i], s); !ok {
			return s, false
		}
	}
	return s, true
}

func (ev surface) do(names []string, stmts []api.Stmt, s *locals) value {
	first := &stmts[0]
	if len(stmts) == 1 {
		return ev.eval(&first.Expr, s)
	}
	operator := func(i int) function { return s.find(names[i]).force().(function) }
	switch first.Op {
	case api.StmtLet:
		return ev.do(names, stmts[1:], ev.bind(first.Decls, s))
	case api.StmtGen:
		rest := function(func(x *thunk) value {
			inner, ok := ev.match(first.Pat, x, s)
			if !ok {
				return noMatch()
			}
			return ev.do(names, stmts[1:], inner)
		})
		return operator(0)(ev.later(&first.Expr, s)).(function)(done(rest))
	}
	rest := delay(func() value { return ev.do(names, stmts[1:], s) })
	return operator(1)(ev.later(&first.Expr, s)).(function)(rest)
}

func (ev surface) comprehension(e *api.Expr, stmts []api.Stmt, s *locals) value {
	if len(stmts) == 0 {
		return listOf([]*thunk{ev.later(e, s)})
	}
	first := &stmts[0]
	switch first.Op {
	case api.StmtLet:
		return ev.comprehension(e, stmts[1:], ev.bind(first.Decls, s))
	case api.StmtGen:
		return concat(ev.later(&first.Expr, s), func(x *thunk) value {
			inner, ok := ev.match(first.Pat, x, s)
			if !ok {
				return listOf(nil)
			}
			return ev.comprehension(e, stmts[1:], inner)
		})
	}
	if isTrue(ev.eval(&first.Expr, s)) {
		return ev.comprehension(e, stmts[1:], s)
	}
	return listOf(nil)
}
