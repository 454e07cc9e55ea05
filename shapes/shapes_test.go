package shapes

import (
	"strings"
	"testing"
)

// Every shape, at its borders.
func TestOf(t *testing.T) {
	for shape, list := range map[Shape]string{
		Var:     "x x' _x x$0 M.x M.x$1 X.x'",
		Con:     "A A' M.A A$1 M.A$1 () [] (,) (,,,,,,)",
		Oper:    "+ - . $$ $$1 +$1 M.+ M.. M.+$$2",
		ConOper: ": :+ :$1 M.: M.:+$1",
		None:    "_ where where$1 M.where -- -> M.-> = x$01 x$ $1x 1 m.x M. .x M.N.x x+ (,,,,,,,) ( ) [ ] (+) ()$1 []$1 M.()",
	} {
		for _, name := range append(strings.Fields(list), map[Shape]string{None: "", Var: strings.Repeat("x", 64)}[shape]) {
			if name == "" && shape != None {
				continue
			}
			got := Of(name)
			if got != shape {
				t.Errorf("%q has the shape %d, not %d", name, got, shape)
			}
			if got.IsVariable() != (shape == Var || shape == Oper) || got.IsConstructor() != (shape == Con || shape == ConOper) || got.IsOperator() != (shape == Oper || shape == ConOper) {
				t.Errorf("the sorts of the shape of %q", name)
			}
		}
	}
}
