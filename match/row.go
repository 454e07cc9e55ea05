package match

import (
	"lazyc/api"
	"lazyc/patterns"
	"lazyc/syntax"
)

// row is a row of a matrix of patterns, of which some columns have been examined.
type row struct {
	pats  []api.Pat // those that remain, in memory of the row's own; the first one is a PWild, PInt, PChar or PCon
	data  *api.Data // the data type of the constructor that the first one examines
	bound []bound   // what the variables of the examined patterns stand for
	body  *api.Kernel
	falls bool
	want  string // the variable whose value is the result, if there is no body
}

// bound says what a variable stands for: a variable, or, with a pattern, for its value if that matches the variable lazily.
type bound struct {
	name   string
	source string
	lazy   *api.Pat
}

// startsLike reports whether both rows begin with patterns that one case expression can examine, or with patterns that examine nothing.
func (r row) startsLike(other row) bool {
	return r.pats[0].Op == other.pats[0].Op && r.data == other.data
}

// run returns how many rows from the first one on are of a sort.
func run(rows []row, is func(row) bool) int {
	for i := range rows {
		if !is(rows[i]) {
			return i
		}
	}
	return len(rows)
}

// bind notes what a variable stands for.
func (r *row) bind(b bound) { r.bound = append(r.bound, b) }

// settle brings the first pattern, if there is one, into one of four forms; the variable is the one that is matched against it.
func (r *row) settle(table *patterns.Table, variable string) {
	r.data = nil
	if len(r.pats) == 0 {
		return
	}
	p := r.pats[0]
	for p.Op == api.PAs {
		r.bind(bound{name: p.Name, source: variable})
		p = p.Kids[0]
	}
	switch p = patterns.Simple(p); p.Op {
	case api.PVar:
		r.bind(bound{name: p.Name, source: variable})
		p = api.Pat{Op: api.PWild}
	case api.PLazy:
		for _, name := range syntax.Binders(p) {
			r.bind(bound{name: name, source: variable, lazy: &p.Kids[0]})
		}
		p = api.Pat{Op: api.PWild}
	case api.PCon, api.PRecord:
		entry, _ := table.Find(p.Name)
		r.data = entry.Data
		if p.Op == api.PRecord {
			p = patterns.OfRecord(p, entry.Con)
		}
	}
	r.pats[0] = p
}

// opened returns the row with the parts of its first pattern in place of that.
func (r row) opened() row {
	parts := r.pats[0].Kids
	// The bound on the capacity makes append copy, so that no later change of the row reaches the pattern.
	r.pats = append(append(parts[:0:0], parts...), r.pats[1:]...)
	return r
}

// grouped returns the rows in groups that begin with the same constructor or literal, in the order of their first occurrence.
func grouped(rows []row) [][]row {
	var groups [][]row
	number := map[head]int{}
	for _, r := range rows {
		h := r.head()
		i, ok := number[h]
		if !ok {
			i = len(groups)
			number[h] = i
			groups = append(groups, nil)
		}
		groups[i] = append(groups[i], r)
	}
	return groups
}

// head is the constructor or literal that a pattern examines.
type head struct {
	name string
	n    int
}

func (r row) head() head { return head{r.pats[0].Name, r.pats[0].N} }
