package names

import (
	"math/big"
	"regexp"
	"strings"
	"testing"

	"lazyc/api"
)

const (
	reservedWords   = "as case class data deriving do else hiding if import in infix infixl infixr instance let module of qualified then where _"
	reservedSymbols = ".. :: = \\ | <- -> @ ~ =>"
)

// P1.1: every class, at its borders.
func TestClassify(t *testing.T) {
	for class, list := range map[api.NameOp]string{
		api.NameWord:    reservedWords,
		api.NameSym:     reservedSymbols,
		api.NameVar:     "x x' _x __ _' _1 a0_'Z wherever where' isCase and data1 aS",
		api.NameCon:     "X M Mod1 A' Z_z Where Where_ As CASE Data",
		api.NameOper:    "! # $ % & * + . / < > ? ^ - --> |-- -. >- ==> <-> ... == || @@ ~> \\\\ ->> $$ .:: -:-",
		api.NameConOper: ": ::: :+ :- :.: :-- :=>",
		api.NameMade:    "x$0 x$1 x'$12 _x$3 X$4 +$5 .$6 $$7 :$8 M.x$9 M.X$10 M.+$11 M..$12 +$$13 M.$$14 x$9223372036854775807 ==>$1 M.:+$0 -$2",
		0: "1 1x 'x x.y M.x M.+ M.. M. .x M.N.x x- -x +x x+ x$ $1 x$01 x$00 x$-1 x$+1 x$a x$1a x$1$2 where$1 _$1 =$1 ..$1 ->$1 --$1 -- --- ---------- " +
			"M.where$1 M._$1 M.=$1 M...$1 M.--$1 m.x$1 M.N.x$1 M.x$1$2 M$x$1 x$9223372036854775808 x$10000000000000000000 x$99999999999999999999 " +
			"( ) [ ] { } , ; ` \" ab( x\x00 \x80 \xff",
	} {
		for _, s := range strings.Fields(list) {
			if got := Classify(s); got != class {
				t.Errorf("Classify(%q) = %v, want %v", s, got, class)
			}
		}
	}
	for _, s := range []string{"", " ", "x ", " x", "a b", "+ +", "x\n", "x\t", "é", "x$1 ", "x$ 1", "M. x"} {
		if got := Classify(s); got != 0 {
			t.Errorf("Classify(%q) = %v, want 0", s, got)
		}
	}
}

// P1.1: names have at most MaxName bytes; in longer ones each part has.
func TestLimits(t *testing.T) {
	word, con, symbol := strings.Repeat("a", 64), strings.Repeat("A", 64), strings.Repeat("+", 64)
	for s, want := range map[string]api.NameOp{
		word: api.NameVar, word + "a": 0, con: api.NameCon, con + "A": 0, symbol: api.NameOper, symbol + "+": 0,
		":" + symbol[1:]: api.NameConOper, ":" + symbol: 0,
		word + "$1": api.NameMade, word + "a$1": 0, symbol + "$1": api.NameMade, symbol + "+$1": 0,
		con + "." + word + "$9223372036854775807": api.NameMade, con + "A." + word + "$1": 0, con + "." + word + "a$1": 0,
		strings.Repeat("-", 64): 0, strings.Repeat("-", 63) + ">": api.NameOper,
	} {
		if got := Classify(s); got != want {
			t.Errorf("Classify(%q) = %v, want %v", s, got, want)
		}
	}
	if s := Join(con, word); s != con+"."+word {
		t.Errorf("Join of long names: %q", s)
	}
	if Join(con+"A", "x") != "" || Join("M", word+"a") != "" || Join("M", symbol+"+") != "" {
		t.Error("Join of names that are too long")
	}
	if m, n, ok := Split(con + "." + symbol); m != con || n != symbol || !ok {
		t.Error("Split of long names", m, n, ok)
	}
	if _, _, ok := Split(con + "A.x"); ok {
		t.Error("Split with a module that is too long")
	}
	if Made(con+"."+word, 7) != con+"."+word+"$7" || Made(word+"a", 7) != "" {
		t.Error("Made of long names")
	}
}

// P1.1, P1.2: Join and Split.
func TestJoinAndSplit(t *testing.T) {
	modules := []string{"M", "Mod1", "A'_b", "Where"}
	simple := []string{"x", "_x", "X", "+", ".", "...", ":", ":+", "-", "-->", "as'", "$"}
	badModules := []string{"", "m", "_M", "_", "+", ":", "M.N", "M$1", "1M", "'M", "M ", "where"}
	badNames := []string{"", "where", "_", "..", "=", "->", "--", "---", "M.x", "x$1", "1", "'", "x y", "(", "a+", "x."}
	for _, m := range modules {
		for _, n := range simple {
			s := Join(m, n)
			if s != m+"."+n {
				t.Errorf("Join(%q, %q) = %q", m, n, s)
			}
			if a, b, ok := Split(s); a != m || b != n || !ok {
				t.Errorf("Split(%q) = %q, %q, %v", s, a, b, ok)
			}
			if Classify(s) != 0 {
				t.Errorf("%q has a class", s)
			}
		}
		for _, n := range badNames {
			checkNotQualified(t, m, n)
		}
	}
	for _, m := range badModules {
		for _, n := range append(simple, badNames...) {
			checkNotQualified(t, m, n)
		}
	}
	for _, s := range []string{"", ".", "..", "M", "x", "M.", ".x", "+", "M.x$1", "MN", "M x"} {
		if a, b, ok := Split(s); a != "" || b != "" || ok {
			t.Errorf("Split(%q) = %q, %q, %v", s, a, b, ok)
		}
	}
}

func checkNotQualified(t *testing.T, module, name string) {
	t.Helper()
	if s := Join(module, name); s != "" {
		t.Errorf("Join(%q, %q) = %q", module, name, s)
	}
	if m, n, ok := Split(module + "." + name); m != "" || n != "" || ok {
		t.Errorf("Split(%q) = %q, %q, %v", module+"."+name, m, n, ok)
	}
}

// P1.1, P1.2: Made and Base.
func TestMadeAndBase(t *testing.T) {
	for _, base := range []string{"x", "X", "_x", "+", "$", "$$", ".", ":", "M.x", "M.X", "M.+", "M.$", "M..", "-", "-->"} {
		for n, digits := range map[int]string{0: "0", 1: "1", 10: "10", 907: "907", api.MaxInt: "9223372036854775807"} {
			s := Made(base, n)
			if s != base+"$"+digits {
				t.Errorf("Made(%q, %d) = %q", base, n, s)
			}
			if b, k, ok := Base(s); b != base || k != n || !ok {
				t.Errorf("Base(%q) = %q, %d, %v", s, b, k, ok)
			}
		}
		if Made(base, -1) != "" || Made(base, -api.MaxInt-1) != "" {
			t.Errorf("Made(%q, ..) with a negative number", base)
		}
		for _, number := range []string{"", "-1", "+1", "01", "00", "-0", "1_0", "0x1", " 1", "1 ", "9223372036854775808", "1e3", "a", "１"} {
			if b, k, ok := Base(base + "$" + number); b != "" || k != 0 || ok {
				t.Errorf("Base(%q) = %q, %d, %v", base+"$"+number, b, k, ok)
			}
		}
	}
	for _, base := range []string{"", "where", "_", "=", "..", "--", "x$1", "M.x$1", "M.where", "M.--", "m.x", "M.", "M.N.x", ".x", "1", "x ", "("} {
		if s := Made(base, 1); s != "" {
			t.Errorf("Made(%q, 1) = %q", base, s)
		}
		if b, k, ok := Base(base + "$1"); b != "" || k != 0 || ok {
			t.Errorf("Base(%q) = %q, %d, %v", base+"$1", b, k, ok)
		}
	}
	for _, s := range []string{"", "x", "M.x", "1", "$", "+$", "$$"} {
		if b, k, ok := Base(s); b != "" || k != 0 || ok {
			t.Errorf("Base(%q) = %q, %d, %v", s, b, k, ok)
		}
	}
}

// shapes are the definitions of the chapter as regular expressions.
type shapes struct {
	word, symbol, module, qualified, made *regexp.Regexp
}

func newShapes() shapes {
	whole := func(s string) *regexp.Regexp { return regexp.MustCompile(`^(?s:` + s + `)$`) }
	return shapes{
		word:      whole(`[A-Za-z_][A-Za-z0-9_']{0,63}`),
		symbol:    whole(`[!#$%&*+./<=>?@\\^|~:-]{1,64}`),
		module:    whole(`[A-Z][A-Za-z0-9_']{0,63}`),
		qualified: whole(`([^.]*)\.(.*)`),
		made:      whole(`(.*)\$(0|[1-9][0-9]*)`),
	}
}

func (d shapes) class(s string) api.NameOp {
	has := func(list string) bool { return s != "" && strings.Contains(" "+list+" ", " "+s+" ") }
	switch {
	case d.word.MatchString(s) && has(reservedWords):
		return api.NameWord
	case d.module.MatchString(s):
		return api.NameCon
	case d.word.MatchString(s):
		return api.NameVar
	case !d.symbol.MatchString(s) || len(s) > 1 && strings.Count(s, "-") == len(s):
		return 0
	case has(reservedSymbols):
		return api.NameSym
	case s[0] == ':':
		return api.NameConOper
	}
	return api.NameOper
}

func (d shapes) isSimple(s string) bool {
	class := d.class(s)
	return class != 0 && class != api.NameWord && class != api.NameSym
}

func (d shapes) isQualified(s string) bool {
	m := d.qualified.FindStringSubmatch(s)
	return m != nil && d.module.MatchString(m[1]) && d.isSimple(m[2])
}

func (d shapes) isMade(s string) bool {
	m := d.made.FindStringSubmatch(s)
	if m == nil || !d.isSimple(m[1]) && !d.isQualified(m[1]) {
		return false
	}
	n, _ := new(big.Int).SetString(m[2], 10)
	return n.IsInt64()
}

// P1.1, P1.2: all strings of up to five of some characters.
func TestAllShortStrings(t *testing.T) {
	d := newShapes()
	count := 0
	var visit func(s string)
	visit = func(s string) {
		count++
		checkString(t, d, s)
		if len(s) < 5 && !t.Failed() {
			for _, c := range []byte("Ma_01'.$-=:> ") {
				visit(s + string(c))
			}
		}
	}
	visit("")
	if count < 300000 {
		t.Error("only", count, "strings")
	}
}

func checkString(t *testing.T, d shapes, s string) {
	class, module, name, qualified, base, n, made := d.class(s), "", "", d.isQualified(s), "", 0, d.isMade(s)
	if class != 0 && made || class != 0 && qualified || qualified && made {
		t.Errorf("%q is of two kinds", s)
	}
	if made {
		class = api.NameMade
	}
	if got := Classify(s); got != class {
		t.Errorf("Classify(%q) = %v, want %v", s, got, class)
	}
	module, name, ok := Split(s)
	if ok != qualified || ok && Join(module, name) != s || !ok && module+name != "" {
		t.Errorf("Split(%q) = %q, %q, %v", s, module, name, ok)
	}
	base, n, ok = Base(s)
	if ok != made || ok && Made(base, n) != s || !ok && (base != "" || n != 0) {
		t.Errorf("Base(%q) = %q, %d, %v", s, base, n, ok)
	}
	if want := d.isSimple(s) || qualified; (Made(s, 3) == s+"$3") != want || (Made(s, 3) == "") == want {
		t.Errorf("Made(%q, 3) = %q", s, Made(s, 3))
	}
	if want := d.isSimple(s); (Join("M", s) == "M."+s) != want || (Join("M", s) == "") == want {
		t.Errorf("Join(M, %q) = %q", s, Join("M", s))
	}
}
