package desugar

import (
	"math/rand"
	"reflect"
	"slices"
	"testing"

	"lazyc/api"
	"lazyc/kernel"
	"lazyc/names"
	"lazyc/syntax"
	"lazyc/trees"
)

// oddDatas has labels without fields, fields without labels, equal labels and equal constructors.
func oddDatas() []api.Data {
	odd := data("O", "A n l | B n p | C | D n n . | E . | E . | D | l")
	odd.Cons[1].Labels = append(odd.Cons[1].Labels, "q", "r")
	odd.Cons[4].Labels = []string{"q"}
	return []api.Data{odd, {}, {Name: "P", Cons: []api.Con{{}, {Name: "x"}, {Name: "Z$1", Labels: []string{"z"}}}}, odd}
}

// wild returns the expression with other names at some places.
func (r *maker) wild(e api.Expr) api.Expr {
	one := func(name string, others ...string) string {
		if name == "" || r.Intn(20) > 0 {
			return name
		}
		return r.pick(others...)
	}
	c := trees.Copier{
		OnExpr: func(_, e api.Expr) api.Expr {
			switch e.Op {
			case api.EVar:
				e.Name = one(e.Name, "x$1", "M.x", "x", "v$1", "Z$1")
			case api.ECon, api.ERecord:
				e.Name = one(e.Name, "A", "D", "E", "Z$1", "Q", "()")
			case api.EDo:
				for i := range e.Names {
					e.Names[i] = one(e.Names[i], "", "x", "A")
				}
			}
			for i := range e.Fields {
				e.Fields[i].Name = one(e.Fields[i].Name, "n", "l", "p", "q", "r", "z", "s")
			}
			return e
		},
		OnPat: func(p api.Pat) api.Pat {
			switch p.Op {
			case api.PVar, api.PAs:
				p.Name = one(p.Name, "x$1", "v$1", "M.x", "x")
			case api.PCon, api.PRecord:
				p.Name = one(p.Name, "A", "D", "E", "Z$1", "Q", "()")
			}
			for i := range p.Names {
				p.Names[i] = one(p.Names[i], "n", "l", "q", "r", "z")
			}
			return p
		},
	}
	return c.Expr(e)
}

// Expr and Module return for all arguments: a fault, or a valid result.
func TestTotality(t *testing.T) {
	r := &maker{rand.New(rand.NewSource(18)), 0}
	codes := map[api.Errno]int{}
	for range 2500 {
		r.names = 0
		e := r.wild(r.expr(r.sort(), 4, nil))
		env := api.Env{Datas: oddDatas()}
		if r.Intn(2) == 0 {
			env.Datas = recordDatas()
		}
		k, fault := Expr(env, e, supplyFor(e))
		codes[fault.Code]++
		if fault != (api.Fault{}) {
			if !kernel.Same(k, api.Kernel{}) || fault.Line != 0 || fault.Col != 0 {
				t.Errorf("%s: the fault %v and %v", syntax.PrintExpr(e), fault, k)
			}
		} else if code := kernel.Check(k); code != api.OK {
			t.Errorf("%s: a result with the error %d", syntax.PrintExpr(e), code)
		}
		again, second := Expr(env, e, supplyFor(e))
		if second != fault || !kernel.Same(again, k) {
			t.Errorf("%s: two results", syntax.PrintExpr(e))
		}
		m := api.Module{Name: "M", Decls: []api.Decl{{Op: api.DFun, Name: "M.f", Clauses: []api.Clause{{Rhs: []api.Rhs{{Body: e}}}}}}}
		module, third := Module(env, m)
		if third != fault || fault == (api.Fault{}) && len(module.Binds) != 1 {
			t.Errorf("%s: the fault %v, but in a module %v", syntax.PrintExpr(e), fault, third)
		}
	}
	for _, code := range []api.Errno{api.OK, api.ErrArg, api.ErrScope, api.ErrField, api.ErrArity, api.ErrTwice} {
		if codes[code] < 5 {
			t.Errorf("the error %d occurred %d times", code, codes[code])
		}
	}
}

// Fields returns for all arguments, which it leaves as they are.
func TestFieldsOfOddData(t *testing.T) {
	r := &maker{rand.New(rand.NewSource(19)), 0}
	label := func() string { return r.pick("x", "y", "", "A", "v$1") }
	codes := map[api.Errno]int{}
	for range 5000 {
		d := api.Data{Name: label()}
		for range r.Intn(4) {
			con := api.Con{Name: label()}
			for range r.Intn(3) {
				con.Fields = append(con.Fields, api.Type{Op: api.TypeOp(r.Intn(4)), Name: label()})
				if r.Intn(10) > 0 {
					con.Labels = append(con.Labels, label())
				}
			}
			d.Cons = append(d.Cons, con)
		}
		if r.Intn(3) == 0 {
			d.Params = []api.TyVar{{Name: label()}, {Name: "a", Kind: api.Kind{Args: make([]api.Kind, 1)}}}
		}
		before := trees.Map(d.Cons, func(c api.Con) api.Con {
			return api.Con{Name: c.Name, Fields: trees.Map(c.Fields, trees.Type), Labels: slices.Clone(c.Labels)}
		})
		binds, fault := Fields(d)
		codes[fault.Code]++
		if fault != (api.Fault{}) && binds != nil || !reflect.DeepEqual(before, d.Cons) {
			t.Errorf("%v: the fault %v", d, fault)
		}
		checkNoSharing(t, binds)
	}
	for _, code := range []api.Errno{api.OK, api.ErrArg, api.ErrTwice, api.ErrType} {
		if codes[code] < 20 {
			t.Errorf("the error %d occurred %d times", code, codes[code])
		}
	}
}

// P16.1: the translations of equal expressions with other names of new variables are equal up to these.
func TestOtherSupplies(t *testing.T) {
	r := &maker{rand.New(rand.NewSource(20)), 0}
	env := api.Env{Datas: recordDatas()}
	for range 300 {
		r.names = 0
		e := r.expr(r.sort(), 4, nil)
		one, two := supplyFor(e), supplyFor(e)
		for _, base := range []string{"v", "x", "xs", "go", "u", "t", "hi", "n", "fail"} {
			for range r.Intn(4) {
				two.Fresh(base)
			}
		}
		first, fault := Expr(env, e, one)
		second, other := Expr(env, e, two)
		if fault != other || fault == (api.Fault{}) && !kernel.Alpha(first, second) {
			t.Fatalf("%s: %s and %s, the faults %v and %v", syntax.PrintExpr(e), kernel.Print(first), kernel.Print(second), fault, other)
		}
		for part := range kernel.All(first) {
			if base, _, ok := names.Base(part.Name); part.Op == api.KLam && ok && !slices.Contains([]string{"x", "f", "v", "u", "n", "hi"}, base) {
				t.Errorf("%s: the variable %s", kernel.Print(first), part.Name)
			}
		}
	}
}
