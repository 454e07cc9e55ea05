package match

import (
	"slices"

	"lazyc/api"
	"lazyc/kernel"
	"lazyc/names"
	"lazyc/patterns"
	"lazyc/trees"
)

// The variable that a body may contain, and the exception that irrefutable patterns raise.
const (
	failName = "fail"
	noMatch  = "NoMatch"
)

// compiler translates a matrix in two steps: to a plan, and from that to a kernel expression. So it is known how often a plan is reached when it is translated.
type compiler struct {
	table  *patterns.Table
	supply *names.Supply
}

// compile is Compile for arguments without faults.
func (c *compiler) compile(vars []string, list []api.Row, otherwise api.Kernel) api.Kernel {
	var rows []row
	for i := range list {
		r := row{pats: slices.Clone(list[i].Pats), body: &list[i].Body, falls: list[i].Falls}
		rows = append(rows, r)
	}
	last := &exit{rest: given{&otherwise}}
	first := c.next(vars, rows, last)
	return c.emit(attempt{first, last})
}

// exit is a way out of the rows that are tried first, which leads to a plan for what comes after them.
type exit struct {
	rest  plan
	uses  int    // how many places lead to it
	named bool   // whether one of them is in the body of a row, where only a variable can stand
	name  string // the variable that stands for the plan, if there is one
}

// next returns the plan for rows whose first patterns, for the first of the variables, have not been looked at.
func (c *compiler) next(vars []string, rows []row, out *exit) plan {
	if len(vars) > 0 {
		for i := range rows {
			rows[i].settle(c.table, vars[0])
		}
	}
	return c.plan(vars, rows, out)
}

// plan returns the plan for rows that are settled.
func (c *compiler) plan(vars []string, rows []row, out *exit) plan {
	if len(rows) == 0 {
		return out.taken()
	}
	n := 1
	examine := c.choose
	if len(vars) > 0 {
		n = run(rows, rows[0].startsLike)
		examine = c.examine
	}
	if n == len(rows) {
		return examine(vars, rows, out)
	}
	after := &exit{}
	first := examine(vars, rows[:n:n], after)
	if after.uses > 0 {
		after.rest = c.plan(vars, rows[n:], out)
	}
	return attempt{first, after}
}

// taken returns the plan to leave by the exit.
func (e *exit) taken() plan {
	e.uses++
	return leave{e}
}

// choose returns the plan for the body of a row without patterns.
func (c *compiler) choose(_ []string, rows []row, out *exit) plan {
	r := rows[0]
	if r.want != "" {
		return part{r}
	}
	if !r.falls || !slices.Contains(kernel.Free(*r.body), failName) {
		return chosen{r, nil}
	}
	out.uses++
	out.named = true
	return chosen{r, out}
}

// examine returns the plan for rows that begin alike.
func (c *compiler) examine(vars []string, rows []row, out *exit) plan {
	if rows[0].pats[0].Op == api.PWild {
		for i := range rows {
			rows[i].pats = rows[i].pats[1:]
		}
		return c.next(vars[1:], rows, out)
	}
	t := test{variable: vars[0]}
	for _, group := range grouped(rows) {
		first := group[0].pats[0]
		fields := c.fresh(len(first.Kids))
		alt := api.KAlt{Op: altOp(first.Op), Name: first.Name, N: first.N, Vars: fields}
		t.alts = append(t.alts, alt)
		inner := append(fields[:len(fields):len(fields)], vars[1:]...)
		t.plans = append(t.plans, c.next(inner, trees.Map(group, row.opened), out))
	}
	if rows[0].data == nil || !isComplete(t.alts, rows[0].data) {
		t.alts = append(t.alts, api.KAlt{Op: api.AltDefault})
		t.plans = append(t.plans, out.taken())
	}
	return t
}

func altOp(op api.PatOp) api.AltOp {
	switch op {
	case api.PInt:
		return api.AltInt
	case api.PChar:
		return api.AltChar
	}
	return api.AltCon
}

// isComplete reports whether there are alternatives for all constructors of a data type.
func isComplete(alts []api.KAlt, data *api.Data) bool {
	covered := map[string]bool{}
	for i := range alts {
		covered[alts[i].Name] = true
	}
	for i := range data.Cons {
		if !covered[data.Cons[i].Name] {
			return false
		}
	}
	return true
}

// fresh returns new variables.
func (c *compiler) fresh(n int) []string {
	list := make([]string, n)
	for i := range list {
		list[i] = c.supply.Fresh("v")
	}
	return list
}
