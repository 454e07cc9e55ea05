package types

import (
	"strings"
	"testing"

	"lazyc/api"
)

// checkType checks that a text has a type, and which text that type is written as.
func checkType(t *testing.T, text string, want api.Type, written string) {
	t.Helper()
	got, fault := Parse(text)
	if fault != (api.Fault{}) || !same(got, want) {
		t.Errorf("Parse(%q) = %v, %v, want %v", text, got, fault, want)
	}
	if got := Print(want); got != written {
		t.Errorf("Print(%v) = %q, want %q", want, got, written)
	}
}

func list(t api.Type) api.Type { return app(tc("[]"), t) }

func tuple(parts ...api.Type) api.Type {
	return app(tc("("+strings.Repeat(",", len(parts)-1)+")"), parts...)
}

// P4.3: types, as they are written.
func TestTypes(t *testing.T) {
	f, g := tv("f"), tv("g")
	for text, want := range map[string]api.Type{
		"a": a, "forall'": tv("forall'"), "a$1": tv("a$1"), "_a'": tv("_a'"), "forall$2": tv("forall$2"),
		"Int": integer, "M.Int": tc("M.Int"), "X$0": tc("X$0"), "M.X$12": tc("M.X$12"),
		"(:+)": tc(":+"), "(:)": tc(":"), "(M.:+)": tc("M.:+"), "(:+$1)": tc(":+$1"), "(:$1)": tc(":$1"), "(M.:$$2)": tc("M.:$$2"), "(:+$)": tc(":+$"), "(M.:+$3)": tc("M.:+$3"),
		"()": tc("()"), "[]": tc("[]"), "(->)": tc("->"), "(,)": tc("(,)"), "(,,)": tc("(,,)"), "(,,,,,,)": tc("(,,,,,,)"),

		"Maybe a": app(maybe, a), "f a b": app(f, a, b), "f (g a)": app(f, app(g, a)), "f (f a) b": app(f, app(f, a), b),
		"f (:+) (:)": app(f, tc(":+"), tc(":")), "(:+) a": app(tc(":+"), a), "Maybe ()": app(maybe, tc("()")),

		"a -> b": fun(a, b), "a -> b -> x": fun(a, fun(b, x)), "(a -> b) -> x": fun(fun(a, b), x), "a -> (b -> x) -> a": fun(a, fun(fun(b, x), a)),
		"(->) Int": app(tc("->"), integer), "(a -> b) x": app(fun(a, b), x), "(a -> b) x -> b": fun(app(fun(a, b), x), b),
		"Maybe (a -> b)": app(maybe, fun(a, b)), "Maybe a -> f b": fun(app(maybe, a), app(f, b)), "(->) -> ()": fun(tc("->"), tc("()")),

		"[a]": list(a), "[[a]]": list(list(a)), "[a] b": app(list(a), b), "[a -> b]": list(fun(a, b)), "f [a] []": app(f, list(a), tc("[]")),
		"[forall a. a]": list(all("a", a)), "[Maybe a]": list(app(maybe, a)), "[(:+)]": list(tc(":+")), "[(a, b)]": list(tuple(a, b)),

		"(,) a": app(tc("(,)"), a), "(a, b)": tuple(a, b), "(a, b) x": app(tuple(a, b), x), "(,,) a b": app(tc("(,,)"), a, b),
		"(a, b, x)": tuple(a, b, x), "(a, b, x, a, b, x, a)": tuple(a, b, x, a, b, x, a), "(,,,,,,) a": app(tc("(,,,,,,)"), a),
		"(a -> b, forall a. a, Maybe a)": tuple(fun(a, b), all("a", a), app(maybe, a)), "((a, b), [a])": tuple(tuple(a, b), list(a)), "Maybe (a, b)": app(maybe, tuple(a, b)),

		"forall a. a": all("a", a), "forall a b. a": all("a", all("b", a)), "forall a a. a": all("a", all("a", a)), "forall a$1. a$1": all("a$1", tv("a$1")),
		"forall a. a -> b": all("a", fun(a, b)), "(forall a. a) -> b": fun(all("a", a), b), "a -> forall b. b": fun(a, all("b", b)), "forall a. a -> forall b. b": all("a", fun(a, all("b", b))),
		"(forall a. f) b": app(all("a", f), b), "f (forall a. a)": app(f, all("a", a)),
		"forall (f :: * -> *). f a": allOf("f", one, app(f, a)), "forall a (f :: * -> *) b. f a": all("a", allOf("f", one, all("b", app(f, a)))),
		"forall (f :: (* -> *) -> * -> *). a": allOf("f", kind(one, star), a),
	} {
		checkType(t, text, want, text)
	}
}

// P4.3: texts that are not as they would be written.
func TestSpellings(t *testing.T) {
	for _, test := range []struct {
		text string
		want api.Type
	}{
		{"(a)", a}, {"((a))", a}, {" \t\na\n", a}, {"(Maybe) a", app(maybe, a)}, {"((:+))", tc(":+")}, {"( :+ )", tc(":+")},
		{"a->b", fun(a, b)}, {"a\n->b", fun(a, b)}, {"(a -> b)", fun(a, b)}, {"a -> (b -> x)", fun(a, fun(b, x))}, {"((->)) a b", fun(a, b)}, {"(->) a b", fun(a, b)}, {"(->)a(b)", fun(a, b)}, {"((->) a) b", fun(a, b)},
		{"(f a) b", app(tv("f"), a, b)}, {"f(a)[b]", app(tv("f"), a, list(b))}, {"M.X(a)", app(tc("M.X"), a)},
		{"( )", tc("()")}, {"[ ]", tc("[]")}, {"( -> )", tc("->")}, {"( , , )", tc("(,,)")}, {"[] a", list(a)}, {"(,) a b", tuple(a, b)}, {"( a , b )", tuple(a, b)}, {"(,)a", app(tc("(,)"), a)},
		{"forall a.a", all("a", a)}, {"forall a . a", all("a", a)}, {"forall a .a", all("a", a)}, {"forall a. forall b. a", all("a", all("b", a))}, {"forall a. (forall b. a)", all("a", all("b", a))},
		{"forall (a :: *). a", all("a", a)}, {"forall(a :: *)b.a", all("a", all("b", a))}, {"forall (a::(*)). a", all("a", a)}, {"a -> (forall b. b)", fun(a, all("b", b))},
		{"forall (f ::(* -> *)).a", allOf("f", one, a)}, {"forall (f :: * -> (* -> *)). a", allOf("f", kind(star, star), a)},
		{"a$1$", api.Type{}}, {"X$1a", app(tc("X$1"), a)}, {"a$1b", app(tv("a$1"), b)}, {"a$1'", api.Type{}}, {"M.X$1(a)", app(tc("M.X$1"), a)}, {"(:+$1)a", app(tc(":+$1"), a)},
	} {
		if test.want.Op == 0 {
			checkForm(t, test.text)
			continue
		}
		checkType(t, test.text, test.want, Print(test.want))
	}
}

// checkForm checks that a text is not the text of a type.
func checkForm(t *testing.T, text string) {
	t.Helper()
	if got, fault := Parse(text); fault != (api.Fault{Code: api.ErrForm}) || !same(got, api.Type{}) {
		t.Errorf("Parse(%.60q) = %v, %v", text, got, fault)
	}
}

// P4.3: texts that are no texts of types.
func TestNoTypes(t *testing.T) {
	for _, text := range []string{
		"", " ", "a ->", "-> a", "a -> -> b", "forall . a", "Maybe -> *", "forall a.", "forall a a", "forall", "a forall", "f forall a. a", "forall A. a", "forall (a). a", "forall (a :: ). a", "forall (a :: * ->). a", "forall (a :: a). a",
		"forall (A :: *). a", "forall (a :: *. a", "forall a :: *. a", "forall (a b :: *). a", "forall (a::*). a", "forall forall. a", "forall a->a", "forall a.->a",
		"(", ")", "(a", "a)", "(a,", "(a,)", "(,a)", "(a,,b)", "a, b", "(a b", "[a", "a]", "[", "]", "[a, b]", "[a,]", "[,]", "(a]", "[a)", "[->]", "(-> a)", "(a ->)", "(->", "(,,", "(,,,,,,,)", "(a, a, a, a, a, a, a, a)",
		":+", "a :+ b", "(:+ a)", "(a :+)", "f :+", "(:+", "::", "(::)", "(+)", "+", "=", "*", ".", "a.", "(*)", "a.b", "m.X", "M.a", "M.", "M.N.X", "M. X", "M .X", "M.where", "M.+", "(M.+)", "M.'a", "M.1", "M.[]", "(M.->)",
		"where", "_", "case a", "Eq a => a", "=> a", "() => a", "a => b", "a :: *",
		"1", "a 1", "'a", "a$", "a$ 1", "a $1", "a$01", "A$01", "$1", "$$1", "a$$1", "(+$1)", "(:+$01)", "M.$1", "(M.$$1)", "a$1$2", "a$9223372036854775808", "()$1", "(:)$1", "a\x01", "\x80", "a\r", "\"a\"", "a;b", "{a}", "`a`", "a -- b",
		strings.Repeat("a", 65), strings.Repeat("A", 65), "(:" + strings.Repeat("+", 64) + ")", "a\u00a0b",
	} {
		checkForm(t, text)
	}
}

// P4.3: the limits of texts, and of the types that they have.
func TestParseLimits(t *testing.T) {
	check := func(text string, code api.Errno) {
		t.Helper()
		got, fault := Parse(text)
		if fault != (api.Fault{Code: code}) || (got.Op == 0) == (code == api.OK) {
			t.Errorf("Parse(%.20q), of %d bytes: %v", text, len(text), fault)
		}
	}
	parens := func(n int) string { return strings.Repeat("(", n) + "a" + strings.Repeat(")", n) }
	brackets := func(n int) string { return strings.Repeat("[", n) + "a" + strings.Repeat("]", n) }
	binder := func(k string) string { return "forall (a :: " + k + "). a" }
	check(strings.Repeat(" ", api.MaxSource-1)+"a", api.OK)
	check(strings.Repeat(" ", api.MaxSource)+"a", api.ErrLong)
	check(strings.Repeat(")", api.MaxSource+1), api.ErrLong)
	check(strings.Repeat("(", api.MaxSource), api.ErrForm)
	check(strings.Repeat("[", api.MaxSource), api.ErrForm)
	check(parens(32767), api.OK)
	check(brackets(99), api.OK)
	check(brackets(100), api.ErrDepth)
	check(brackets(32767), api.ErrLong)
	check("a"+strings.Repeat(" a", 99), api.OK)
	check("a"+strings.Repeat(" a", 100), api.ErrDepth)
	check("a"+strings.Repeat(" a", 10000), api.ErrLong)
	check("a"+strings.Repeat("->a", 20000), api.ErrLong)
	check("forall"+strings.Repeat(" a", 99)+". a", api.OK)
	check("forall"+strings.Repeat(" a", 100)+". a", api.ErrDepth)
	check("forall"+strings.Repeat(" a", 32000)+". a", api.ErrLong)
	check(strings.Repeat("forall a.", 7000)+"a", api.ErrDepth)
	check(strings.Repeat("a->", 4999)+"a", api.ErrDepth)
	check(strings.Repeat("a->", 5000)+"a", api.ErrLong)
	check(binder(strings.Repeat("(", 98)+"* -> *"+strings.Repeat(") -> *", 98)), api.OK)
	check(binder(strings.Repeat("(", 99)+"* -> *"+strings.Repeat(") -> *", 99)), api.ErrDepth)
	check(binder("*"+strings.Repeat(" -> *", 13000)), api.OK)
	check(binder("*"+strings.Repeat(" -> *", 13000)+" ->"), api.ErrForm)
}

// P4.3: kinds and their texts.
func TestKinds(t *testing.T) {
	for text, want := range map[string]api.Kind{
		"*": star, "* -> *": one, "* -> * -> *": kind(star, star), "(* -> *) -> *": kind(one), "(* -> *) -> (* -> * -> *) -> * -> *": kind(one, kind(star, star), star), "((* -> *) -> *) -> *": kind(kind(one)),
	} {
		checkKindText(t, text, want, text)
	}
	for text, want := range map[string]api.Kind{
		"(*)": star, "((*))": star, "* -> (* -> *)": kind(star, star), "(* -> *)": one, "(*)->(*)": one, " *\n->\t* ": one, "* -> ((* -> *) -> (* -> *))": kind(star, one, star),
	} {
		checkKindText(t, text, want, PrintKind(want))
	}
	for _, text := range []string{"", "a", "* *", "*->*", "**", "* ->", "-> *", "(*", "*)", "()", "[*]", "* -> -> *", "(*, *)", "* => *", "* :: *", "forall a. *", "Type", "* -> a", "->", "*.", "1"} {
		checkNoKind(t, text, api.ErrForm)
	}
	checkNoKind(t, strings.Repeat(" ", api.MaxSource)+"*", api.ErrLong)
	checkNoKind(t, strings.Repeat("(", api.MaxSource), api.ErrForm)
	deep := PrintKind(deepKind(100))
	checkKindText(t, deep, deepKind(100), deep)
	checkNoKind(t, "("+deep+") -> *", api.ErrDepth)
	checkNoKind(t, strings.Repeat("(", 8000)+"*"+strings.Repeat(")->*", 8000), api.ErrForm)
	checkNoKind(t, strings.Repeat("(", 8000)+"*"+strings.Repeat(")-> *", 8000), api.ErrDepth)
	for _, bad := range []api.Kind{deepKind(101), wideKind(20001), kind(star, deepKind(100))} {
		if got := PrintKind(bad); got != "" {
			t.Errorf("%.100q", got)
		}
	}
	wide := wideKind(20000)
	checkKindPrint(t, wide, strings.Repeat("* -> ", 19999)+"*")
}

func checkKindPrint(t *testing.T, k api.Kind, want string) {
	t.Helper()
	if got := PrintKind(k); got != want {
		t.Errorf("PrintKind(%.100v) = %.100q, want %.100q", k, got, want)
	}
}

func checkKindText(t *testing.T, text string, want api.Kind, written string) {
	t.Helper()
	if got, fault := ParseKind(text); fault != (api.Fault{}) || !same(got, want) {
		t.Errorf("ParseKind(%q) = %v, %v, want %v", text, got, fault, want)
	}
	checkKindPrint(t, want, written)
}

func checkNoKind(t *testing.T, text string, code api.Errno) {
	t.Helper()
	if got, fault := ParseKind(text); fault != (api.Fault{Code: code}) || !same(got, star) {
		t.Errorf("ParseKind(%.60q) = %.60v, %v, want %v", text, got, fault, code)
	}
}

// P4.3: types that are not valid have no text.
func TestPrintInvalid(t *testing.T) {
	for _, bad := range append(odd(), nested(101), wide(20001), tc("a"), tv("A"), allOf("a", deepKind(101), a)) {
		for _, whole := range []api.Type{bad, app(maybe, bad), all("a", bad)} {
			if got := Print(whole); got != "" {
				t.Errorf("%.100q", got)
			}
			if got := PrintScheme(api.Scheme{Type: whole}); got != "" {
				t.Errorf("%.100q", got)
			}
		}
	}
}
