package base

import (
	"reflect"
	"slices"
	"strings"
	"testing"

	"lazyc/api"
	"lazyc/types"
)

const prims = `intAdd 2 Int -> Int -> Int
intSub 2 Int -> Int -> Int
intMul 2 Int -> Int -> Int
intQuot 2 Int -> Int -> Int
intRem 2 Int -> Int -> Int
intNeg 1 Int -> Int
intEq 2 Int -> Int -> Bool
intLt 2 Int -> Int -> Bool
intLe 2 Int -> Int -> Bool
ord 1 Char -> Int
chr 1 Int -> Char
seq 2 forall a b. a -> b -> b
raise 1 forall a. Exc -> a
returnIO 1 forall a. a -> IO a
bindIO 2 forall a b. IO a -> (a -> IO b) -> IO b
putChar 1 Char -> IO ()
getChar 0 IO Int
throwIO 1 forall a. Exc -> IO a
evaluate 1 forall a. a -> IO a
catchIO 2 forall a. IO a -> (Exc -> IO a) -> IO a
maskIO 1 forall a. IO a -> IO a
unmaskIO 1 forall a. IO a -> IO a`

// The data types, each with its parameters, and behind a bar each constructor with its fields.
const datas = `Int
Char
-> a b
IO a
Bool | False | True
[] a | [] | : a [a]
() | ()
(,) a b | (,) a b
(,,) a b c | (,,) a b c
(,,,) a b c d | (,,,) a b c d
(,,,,) a b c d e | (,,,,) a b c d e
(,,,,,) a b c d e f | (,,,,,) a b c d e f
(,,,,,,) a b c d e f g | (,,,,,,) a b c d e f g
Exc | DivByZero | NoMatch | Loop | Failure Int | Interrupt Int`

const cons = `False Bool
True Bool
[] forall a. [a]
: forall a. a -> [a] -> [a]
() ()
(,) forall a b. a -> b -> (a, b)
(,,) forall a b c. a -> b -> c -> (a, b, c)
(,,,) forall a b c d. a -> b -> c -> d -> (a, b, c, d)
(,,,,) forall a b c d e. a -> b -> c -> d -> e -> (a, b, c, d, e)
(,,,,,) forall a b c d e f. a -> b -> c -> d -> e -> f -> (a, b, c, d, e, f)
(,,,,,,) forall a b c d e f g. a -> b -> c -> d -> e -> f -> g -> (a, b, c, d, e, f, g)
DivByZero Exc
NoMatch Exc
Loop Exc
Failure Int -> Exc
Interrupt Int -> Exc`

func lines(text string) []string { return strings.Split(text, "\n") }

func primText(p api.Prim) string {
	return p.Name + " " + string(rune('0'+p.Arity)) + " " + types.PrintScheme(p.Scheme)
}

func conText(c api.Con) string {
	text := c.Name
	for _, field := range c.Fields {
		text += " " + types.Print(field)
	}
	return text
}

func dataText(d api.Data) string {
	text := d.Name
	for _, param := range d.Params {
		text += " " + param.Name
	}
	for _, con := range d.Cons {
		text += " | " + conText(con)
	}
	return text
}

// texts returns what text makes of the elements of a list.
func texts[T any](list []T, text func(T) string) []string {
	var all []string
	for _, element := range list {
		all = append(all, text(element))
	}
	return all
}

func checkLines(t *testing.T, got []string, want string) {
	t.Helper()
	if !slices.Equal(got, lines(want)) {
		t.Errorf("got\n%s\nwant\n%s", strings.Join(got, "\n"), want)
	}
}

// scramble overwrites all memory that a value refers to.
func scramble(v reflect.Value) {
	switch v.Kind() {
	case reflect.Struct:
		for i := range v.NumField() {
			scramble(v.Field(i))
		}
	case reflect.Slice:
		for i := range v.Len() {
			scramble(v.Index(i))
			v.Index(i).SetZero()
		}
	}
}

// checkNew checks that calls of f return new memory.
func checkNew[T any](t *testing.T, f func() T) {
	t.Helper()
	want, first := f(), f()
	scramble(reflect.ValueOf(first))
	if got := f(); !reflect.DeepEqual(got, want) {
		t.Errorf("after a change of a result: %v, want %v", got, want)
	}
}

// P5.1: the environment.
func TestEnv(t *testing.T) {
	env := Env()
	checkLines(t, texts(env.Datas, dataText), datas)
	var wanted []string
	for _, line := range lines(prims) {
		parts := strings.SplitN(line, " ", 3)
		wanted = append(wanted, parts[0]+" "+parts[2])
	}
	values := texts(env.Values, func(s api.Sig) string { return s.Name + " " + types.PrintScheme(s.Scheme) })
	checkLines(t, values, strings.Join(wanted, "\n")+"\n"+cons)
	if want := []api.Fixity{{Name: ":", Prec: 5, Assoc: api.AssocRight}}; !slices.Equal(env.Fixities, want) {
		t.Error(env.Fixities)
	}
	if len(env.Classes) > 0 || len(env.Insts) > 0 {
		t.Error(env.Classes, env.Insts)
	}
	for _, data := range env.Datas {
		for _, param := range data.Params {
			checkKind(t, param)
		}
		for _, con := range data.Cons {
			if len(con.Labels) > 0 {
				t.Error(con)
			}
		}
	}
	for _, sig := range env.Values {
		for _, v := range sig.Scheme.Vars {
			checkKind(t, v)
		}
	}
	checkNew(t, Env)
}

func checkKind(t *testing.T, v api.TyVar) {
	t.Helper()
	if len(v.Kind.Args) > 0 {
		t.Errorf("%v is not of the kind *", v)
	}
}

// P5.1: no two slices of the environment share memory.
func TestEnvShares(t *testing.T) {
	env, want := Env(), Env()
	for i := range env.Datas {
		scramble(reflect.ValueOf(env.Datas[i]))
	}
	if !reflect.DeepEqual(env.Values, want.Values) {
		t.Error("Datas and Values share memory")
	}
	for i := range want.Values {
		scramble(reflect.ValueOf(env.Values[i]))
		if i+1 < len(want.Values) && !reflect.DeepEqual(env.Values[i+1:], want.Values[i+1:]) {
			t.Error("the value", i, "shares memory with a later one")
		}
	}
}

// P5.2: the primitives.
func TestPrims(t *testing.T) {
	checkLines(t, texts(Prims(), primText), prims)
	checkNew(t, Prims)
	for number, prim := range Prims() {
		got, n, ok := Prim(prim.Name)
		if !reflect.DeepEqual(got, prim) || n != number || !ok {
			t.Error(prim.Name, got, n, ok)
		}
	}
	checkNew(t, func() api.Prim { prim, _, _ := Prim("bindIO"); return prim })
	for _, name := range []string{"", "Ord", "ord ", "map", "True", "Int", ":", "intadd", "M.ord", "ord$1"} {
		if prim, n, ok := Prim(name); !reflect.DeepEqual(prim, api.Prim{}) || n != 0 || ok {
			t.Error(name, prim, n, ok)
		}
	}
}

// P5.3: the built-in names, and no others.
func TestBuiltin(t *testing.T) {
	names := "Int Char -> IO Bool False True [] : () (,) (,,) (,,,) (,,,,) (,,,,,) (,,,,,,) Exc DivByZero NoMatch Loop Failure Interrupt " +
		"intAdd intSub intMul intQuot intRem intNeg intEq intLt intLe ord chr seq raise returnIO bindIO putChar getChar throwIO evaluate catchIO maskIO unmaskIO"
	for _, name := range strings.Fields(names) {
		if !Builtin(name) {
			t.Error(name, "is not built in")
		}
	}
	for _, name := range []string{"", "map", "a", "(,,,,,,,)", "(", ",", "( )", "[ ]", "::", "M.seq", "M.Int", "seq$1", "Seq", "int", "Maybe", "==", "a b", "(->)", "false"} {
		if Builtin(name) {
			t.Error(name, "is built in")
		}
	}
}

// P5.4: the names of tuples.
func TestTuple(t *testing.T) {
	wanted := map[int]string{0: "()", 2: "(,)", 3: "(,,)", 4: "(,,,)", 5: "(,,,,)", 6: "(,,,,,)", 7: "(,,,,,,)"}
	for n := -20; n < 20; n++ {
		if got := Tuple(n); got != wanted[n] {
			t.Errorf("Tuple(%d) = %q", n, got)
		}
	}
	for _, n := range []int{api.MaxInt, -api.MaxInt - 1, 1 << 40} {
		if got := Tuple(n); got != "" {
			t.Errorf("Tuple(%d) = %q", n, got)
		}
	}
}

// P5.5: the exceptions.
func TestExceptions(t *testing.T) {
	checkLines(t, texts(Exceptions(), conText), "DivByZero\nNoMatch\nLoop\nFailure Int\nInterrupt Int")
	env := Env()
	if last := env.Datas[len(env.Datas)-1]; !reflect.DeepEqual(last.Cons, Exceptions()) {
		t.Error(last.Cons)
	}
	checkNew(t, Exceptions)
}

// P5.7: distinct names, and well-formed types.
func TestConsequences(t *testing.T) {
	env := Env()
	var types, cons, prims []string
	for _, data := range env.Datas {
		types = append(types, data.Name)
		for _, con := range data.Cons {
			cons = append(cons, con.Name)
			for _, field := range con.Fields {
				checkType(t, field)
			}
		}
	}
	for _, prim := range Prims() {
		prims = append(prims, prim.Name)
	}
	for _, sig := range env.Values {
		checkType(t, sig.Scheme.Type)
	}
	for _, group := range [][]string{types, cons, prims} {
		distinct := map[string]bool{}
		for _, name := range group {
			if distinct[name] {
				t.Error(name, "occurs twice")
			}
			distinct[name] = true
		}
	}
}

func checkType(t *testing.T, arg api.Type) {
	t.Helper()
	if code := types.Check(arg); code != api.OK {
		t.Errorf("%v: error %d", arg, code)
	}
}
