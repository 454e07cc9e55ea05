package fixity

import "lazyc/api"

// fixities finds the fixity of every operator.
type fixities map[string]api.Fixity

func mapOf(table []api.Fixity) fixities {
	all := fixities{}
	for _, f := range table {
		if _, ok := all[f.Name]; !ok {
			all[f.Name] = f
		}
	}
	return all
}

func (all fixities) find(name string) api.Fixity {
	if f, ok := all[name]; ok {
		return f
	}
	return usual(name)
}

// minusSign returns the fixity of a negation.
func minusSign() api.Fixity { return api.Fixity{Name: "-", Prec: 6, Assoc: api.AssocLeft} }

// sequence consists of operands with operators in between. What is made of them is a tree, or anything else that tells how they are combined.
type sequence[T any] struct {
	operands []T
	minus    []bool // which operands have a minus sign before them
	ops      []string
	combine  func(op int, left, right T) T // applies the operator with an index
	negate   func(operand T) T
}

// resolve combines the operands of a sequence by the precedences of its operators.
func resolve[T any](all fixities, s sequence[T]) (result T, fault api.Fault) {
	used := 0
	next := func() (operand T, minus bool) {
		used++
		return s.operands[used-1], s.minus[used-1]
	}
	var operand func(before api.Fixity) T
	// further continues with the operators behind an operand, up to one that leaves it to the operator before.
	further := func(before api.Fixity, left T) T {
		for used <= len(s.ops) && fault == (api.Fault{}) {
			op := used - 1
			behind := all.find(s.ops[op])
			if conflict(before, behind) {
				fault = mixed(behind.Name)
				break
			}
			if binds(before, behind) {
				break
			}
			left = s.combine(op, left, operand(behind))
		}
		return left
	}
	operand = func(before api.Fixity) T {
		first, minus := next()
		if minus && before.Prec >= minusSign().Prec {
			fault = mixed(minusSign().Name)
		}
		if minus {
			first = s.negate(further(minusSign(), first))
		}
		return further(before, first)
	}
	result = operand(api.Fixity{Prec: -1})
	return result, fault
}

// mixed returns the fault at an operator that cannot stand beside the one before it.
func mixed(name string) api.Fault { return api.Fault{Code: api.ErrFixity, Name: name} }

// conflict reports whether two operators with an operand in between need parentheses.
func conflict(before, behind api.Fixity) bool {
	return before.Prec == behind.Prec && (before.Assoc != behind.Assoc || before.Assoc == api.AssocNone)
}

// binds reports whether an operand belongs to the operator before it rather than to the one behind it.
func binds(before, behind api.Fixity) bool {
	return before.Prec > behind.Prec || before.Prec == behind.Prec && before.Assoc == api.AssocLeft
}
