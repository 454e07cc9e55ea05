package cover

import "lazyc/api"

// matrix has rows with a pattern for each column.
type matrix []vector

// column returns the patterns of a column that examine something.
func (m matrix) column(i int) vector {
	var heads vector
	for _, row := range m {
		if row[i] != nil {
			heads = append(heads, row[i])
		}
	}
	return heads
}

// isConsistent reports whether all patterns at the same place examine the same family.
func (m matrix) isConsistent() bool {
	for i := range m.width() {
		column := m.column(i)
		parts := map[string]matrix{}
		for _, p := range column {
			if p.family() != column[0].family() {
				return false
			}
			parts[p.head.name] = append(parts[p.head.name], p.kids)
		}
		for _, rows := range parts {
			if !rows.isConsistent() {
				return false
			}
		}
	}
	return true
}

// width returns the number of columns, or 0 if there are no rows.
func (m matrix) width() int {
	if len(m) == 0 {
		return 0
	}
	return len(m[0])
}

// at returns the rows that match values with a head in a column; the patterns of its parts are in place of that column.
func (m matrix) at(i int, h head, parts int) matrix {
	var rows matrix
	for _, row := range m {
		kids := make(vector, parts)
		if row[i] != nil {
			if row[i].head != h {
				continue
			}
			kids = row[i].kids
		}
		rows = append(rows, row[:i].extended(kids...).extended(row[i+1:]...))
	}
	return rows
}

// open returns the rows that examine nothing in a column, without that column.
func (m matrix) open(i int) matrix {
	var rows matrix
	for _, row := range m {
		if row[i] == nil {
			rows = append(rows, row.without(i))
		}
	}
	return rows
}

// busiest returns the column in which the most rows examine something; found is false if a row examines nothing at all.
func (m matrix) busiest() (column int, found bool) {
	counts := make([]int, m.width())
	for _, row := range m {
		examines := false
		for i, p := range row {
			if p != nil {
				counts[i]++
				examines = true
			}
		}
		if !examines {
			return 0, false
		}
	}
	for i := range counts {
		if counts[i] > counts[column] {
			column = i
		}
	}
	return column, true
}

// isExhausted reports whether all values are matched by a row.
func (f families) isExhausted(m matrix) bool {
	if len(m) == 0 {
		return false
	}
	i, found := m.busiest()
	if !found {
		return true
	}
	heads := distinct(m.column(i))
	if !isComplete(heads) {
		// If a list of values is not matched, it is not matched either with a member that no row examines.
		return f.isExhausted(m.open(i))
	}
	for _, h := range heads {
		if !f.isExhausted(m.at(i, h.head, len(h.kids))) {
			return false
		}
	}
	return true
}

// distinct returns the first pattern with each head.
func distinct(column vector) vector {
	var first vector
	seen := map[head]bool{}
	for _, p := range column {
		if !seen[p.head] {
			seen[p.head] = true
			first = append(first, p)
		}
	}
	return first
}

// isComplete reports whether patterns with distinct heads, of one family, have all heads of the family.
func isComplete(heads vector) bool {
	switch first := heads[0]; first.head.op {
	case api.PInt:
		return false
	case api.PChar:
		return len(heads) > api.MaxChar
	default:
		seen := map[string]bool{}
		for _, p := range heads {
			seen[p.head.name] = true
		}
		for _, con := range first.data.Cons {
			if !seen[con.Name] {
				return false
			}
		}
		return true
	}
}

// isUseful reports whether a row is matched by values that no row before it matches.
func (f families) isUseful(m matrix, last int) bool {
	var rows matrix
	for _, row := range m[:last] {
		if rest, ok := row.against(m[last]); ok {
			rows = append(rows, rest)
		}
	}
	return !f.isExhausted(rows)
}

// against returns, for each open pattern of another vector, what a vector has at its place; ok is false if no values match both.
func (v vector) against(other vector) (rest vector, ok bool) {
	for i, q := range other {
		p := v[i]
		switch {
		case q == nil:
			rest = append(rest, p)
			continue
		case p == nil:
			p = &pattern{kids: make(vector, len(q.kids))}
		case p.head != q.head:
			return nil, false
		}
		inner, ok := p.kids.against(q.kids)
		if !ok {
			return nil, false
		}
		rest = append(rest, inner...)
	}
	return rest, true
}
