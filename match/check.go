package match

import (
	"lazyc/api"
	"lazyc/patterns"
	"lazyc/syntax"
)

// areVariables reports whether names are distinct and not empty.
func areVariables(vars []string) bool {
	seen := map[string]bool{"": true}
	for _, v := range vars {
		if seen[v] {
			return false
		}
		seen[v] = true
	}
	return true
}

func areFormed(rows []api.Row) bool {
	for i := range rows {
		for _, p := range rows[i].Pats {
			if !isFormed(p) {
				return false
			}
		}
	}
	return true
}

// isFormed reports whether a pattern is well formed, and has no form that is not resolved.
func isFormed(p api.Pat) bool {
	abstraction := api.Expr{Op: api.ELam, Pats: []api.Pat{p}, Kids: []api.Expr{{Op: api.EVar, Name: "x"}}}
	return isResolved(&p) && syntax.CheckExpr(abstraction) == api.OK
}

func isResolved(p *api.Pat) bool {
	if p.Op == api.PInfix || p.Op == api.PParen {
		return false
	}
	for i := range p.Kids {
		if !isResolved(&p.Kids[i]) {
			return false
		}
	}
	return true
}

// checkRows returns the first fault of rows of well-formed patterns for a number of variables.
func checkRows(table *patterns.Table, rows []api.Row, variables int) api.Fault {
	for i := range rows {
		if len(rows[i].Pats) != variables {
			return api.Fault{Code: api.ErrArity}
		}
		if fault := checkPats(table, rows[i].Pats); fault != (api.Fault{}) {
			return fault
		}
	}
	return api.Fault{}
}

func checkPats(table *patterns.Table, pats []api.Pat) api.Fault {
	for _, p := range pats {
		if fault := checkPat(table, patterns.Simple(p)); fault != (api.Fault{}) {
			return fault
		}
	}
	return api.Fault{}
}

// checkPat returns the first fault of a pattern whose outermost node is simple, or a PRecord.
func checkPat(table *patterns.Table, p api.Pat) api.Fault {
	if p.Op == api.PCon || p.Op == api.PRecord {
		entry, ok := table.Find(p.Name)
		if !ok {
			return api.Fault{Code: api.ErrScope, Name: p.Name}
		}
		if p.Op == api.PCon && len(p.Kids) != len(entry.Con.Fields) {
			return api.Fault{Code: api.ErrArity, Name: p.Name}
		}
		if fault := checkLabels(p.Names, entry.Con); fault != (api.Fault{}) {
			return fault
		}
	}
	return checkPats(table, p.Kids)
}

// checkLabels returns the first fault of the labels of a PRecord.
func checkLabels(labels []string, con *api.Con) api.Fault {
	const known, used = 1, 2
	state := map[string]int{}
	for _, label := range con.Labels {
		state[label] = known
	}
	for _, label := range labels {
		switch state[label] {
		case known:
			state[label] = used
		case used:
			return api.Fault{Code: api.ErrTwice, Name: label}
		default:
			return api.Fault{Code: api.ErrField, Name: label}
		}
	}
	return api.Fault{}
}
