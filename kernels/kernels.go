// Package kernels builds kernel expressions, without annotations. It belongs to no layer. A result contains its arguments as they are.
package kernels

import (
	"slices"

	"lazyc/api"
)

// Var returns a variable.
func Var(name string) api.Kernel { return api.Kernel{Op: api.KVar, Name: name} }

// Con returns a constructor.
func Con(name string) api.Kernel { return api.Kernel{Op: api.KCon, Name: name} }

// Int returns an integer.
func Int(n int) api.Kernel { return api.Kernel{Op: api.KInt, N: n} }

// Char returns a character.
func Char(n int) api.Kernel { return api.Kernel{Op: api.KChar, N: n} }

// Apply returns the application of a function to arguments.
func Apply(f api.Kernel, args ...api.Kernel) api.Kernel {
	for _, arg := range args {
		f = api.Kernel{Op: api.KApp, Kids: []api.Kernel{f, arg}}
	}
	return f
}

// Lambda returns a function with parameters, or the body if there are none.
func Lambda(params []string, body api.Kernel) api.Kernel {
	for _, param := range slices.Backward(params) {
		body = api.Kernel{Op: api.KLam, Name: param, Kids: []api.Kernel{body}}
	}
	return body
}

// Let returns the body in the scope of bindings, or just the body if there are none.
func Let(binds []api.KBind, body api.Kernel) api.Kernel {
	if len(binds) == 0 {
		return body
	}
	return api.Kernel{Op: api.KLet, Binds: binds, Kids: []api.Kernel{body}}
}

// Plain returns a binding without parameters and without a signature.
func Plain(name string, body api.Kernel) api.KBind {
	return api.KBind{Name: name, Plain: true, Body: body}
}

// Case returns a case expression.
func Case(e api.Kernel, alts ...api.KAlt) api.Kernel {
	return api.Kernel{Op: api.KCase, Kids: []api.Kernel{e}, Alts: alts}
}

// Alt returns the alternative for a constructor, whose fields are bound to variables.
func Alt(con string, vars []string, body api.Kernel) api.KAlt {
	return api.KAlt{Op: api.AltCon, Name: con, Vars: vars, Body: body}
}

// Default returns the alternative for everything else.
func Default(body api.Kernel) api.KAlt { return api.KAlt{Op: api.AltDefault, Body: body} }

// If returns a case expression on a truth value.
func If(condition, then, otherwise api.Kernel) api.Kernel {
	return Case(condition, Alt("True", nil, then), Alt("False", nil, otherwise))
}

// NoMatch returns the expression that raises NoMatch.
func NoMatch() api.Kernel { return Apply(Var("raise"), Con("NoMatch")) }
