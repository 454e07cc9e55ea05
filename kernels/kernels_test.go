package kernels

import (
	"testing"

	"lazyc/api"
	"lazyc/kernel"
)

func TestExpressions(t *testing.T) {
	x, y := Var("x"), Var("y")
	for want, e := range map[string]api.Kernel{
		"x":                                    x,
		"True":                                 Con("True"),
		"-1":                                   Int(-1),
		"'a'":                                  Char('a'),
		"x y 1":                                Apply(x, y, Int(1)),
		"y":                                    Apply(y),
		`\x -> \y -> x`:                        Lambda([]string{"x", "y"}, x),
		"1":                                    Lambda(nil, Int(1)),
		"2":                                    Let(nil, Int(2)),
		"raise NoMatch":                        NoMatch(),
		"case x of { _ -> y }":                 Case(x, Default(y)),
		"let { plain x = 1 ; y = x } in y":     Let([]api.KBind{Plain("x", Int(1)), {Name: "y", Body: x}}, y),
		"case x of { (:) x y -> y ; _ -> x }":  Case(x, Alt(":", []string{"x", "y"}, y), Default(x)),
		"case x of { True -> 1 ; False -> 2 }": If(x, Int(1), Int(2)),
		"case x of { [] -> y ; (:) x y -> raise NoMatch }": Case(x, Alt("[]", nil, y), Alt(":", []string{"x", "y"}, NoMatch())),
	} {
		if got := kernel.Print(e); got != want {
			t.Errorf("%s, want %s", got, want)
		}
	}
}
