package cover

import (
	"maps"
	"slices"

	"lazyc/api"
)

// choice is what was chosen for a column: a head with a number of parts, or, with the zero head, any value.
type choice struct {
	head  head
	parts int
}

// missing returns patterns for n columns that no row of a matrix matches; the matrix does not match all values.
func (f families) missing(m matrix, n int) []api.Pat {
	var choices []choice
	for columns := n; columns > 0; columns-- {
		var c choice
		c, m = f.choose(m)
		choices = append(choices, c)
		columns += c.parts
	}
	return nested(choices)
}

// choose returns the first member of the family of the first column for which values are missing, and the matrix for its parts and the other columns.
func (f families) choose(m matrix) (choice, matrix) {
	var chosen choice
	rest := m.open(0)
	if len(rest) < len(m) {
		for _, h := range f.members(m.column(0)) {
			chosen = choice{h, f.parts(h)}
			rest = m.at(0, h, chosen.parts)
			if !f.isExhausted(rest) {
				break
			}
		}
	}
	return chosen, rest
}

// members returns the members of the family of a column, those literals that need not be tried left out.
func (f families) members(column vector) []head {
	var list []head
	if data := column[0].data; data != nil {
		for _, con := range data.Cons {
			list = append(list, head{op: api.PCon, name: con.Name})
		}
		return list
	}
	op := column[0].head.op
	occurs := map[int]bool{}
	for _, p := range column {
		occurs[p.head.n] = true
	}
	first := 0
	for occurs[first] {
		first++
	}
	if op == api.PInt || first <= api.MaxChar {
		list = append(list, head{op: op, n: first})
	}
	for _, n := range slices.Sorted(maps.Keys(occurs)) {
		list = append(list, head{op: op, n: n})
	}
	return list
}

// nested returns the patterns of a list in which each choice is followed by those for its parts.
func nested(choices []choice) []api.Pat {
	var done []api.Pat // the patterns so far, the first one last
	for _, c := range slices.Backward(choices) {
		p := api.Pat{Op: api.PWild}
		if c.head.op != 0 {
			p = api.Pat{Op: c.head.op, Name: c.head.name, N: c.head.n}
		}
		outer := len(done) - c.parts
		for _, kid := range slices.Backward(done[outer:]) {
			p.Kids = append(p.Kids, kid)
		}
		done = append(done[:outer], p)
	}
	slices.Reverse(done)
	return done
}
