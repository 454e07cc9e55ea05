package base

import "lazyc/api"

// Arith performs an arithmetic or comparison primitive on integers.
func Arith(name string, a, b int) (api.Value, bool) {
	switch name {
	case "intAdd":
		return integer(a + b), true
	case "intSub":
		return integer(a - b), true
	case "intMul":
		return integer(a * b), true
	case "intQuot", "intRem":
		return divided(name, a, b), true
	case "intNeg":
		return integer(-a), true
	case "intEq":
		return truth(a == b), true
	case "intLt":
		return truth(a < b), true
	case "intLe":
		return truth(a <= b), true
	case "ord":
		if isChar(a) {
			return integer(a), true
		}
	case "chr":
		return character(a), true
	}
	return api.Value{}, false
}

// divided returns the quotient, or the remainder, of two integers.
func divided(name string, a, b int) api.Value {
	switch {
	case b == 0:
		return exceptional(api.Exc{Con: divByZeroName})
	case name == "intQuot":
		return integer(a / b)
	}
	return integer(a % b)
}

// character returns the character with a number.
func character(n int) api.Value {
	if !isChar(n) {
		return exceptional(api.Exc{Con: failureName, N: n})
	}
	return api.Value{Op: api.VChar, N: n}
}

func isChar(n int) bool { return n >= 0 && n <= api.MaxChar }

func integer(n int) api.Value { return api.Value{Op: api.VInt, N: n} }

func truth(holds bool) api.Value {
	if holds {
		return api.Value{Op: api.VCon, Name: trueName}
	}
	return api.Value{Op: api.VCon, Name: falseName}
}

// exceptional returns the value that raises just the given exception.
func exceptional(exc api.Exc) api.Value {
	return api.Value{Op: api.VBad, Set: api.ExcSet{List: []api.Exc{exc}}}
}
