package parser

import (
	"math/rand"
	"strings"
	"testing"

	"lazyc/api"
)

// grammarText is the grammar of DOC.md, with the remarks of the chapter written out: types extend over every arrow (never is a token that there is not), the operator of a left section does not follow a lambda abstraction, a let or an if, and a statement that begins with let is a let expression alone.
const grammarText = `
module   = [ "module" CON [ exports ] "where" ] "{" { ";" } [ imports { ";" { ";" } topdecl } | topdecl { ";" { ";" } topdecl } ] { ";" } "}"
imports  = import { ";" { ";" } import }
exports  = "(" [ entity { "," entity } ] ")"
entity   = qvar | qcon [ "(" ".." ")" | "(" [ sub { "," sub } ] ")" ]
sub      = var | con
import   = "import" [ "qualified" ] CON [ "as" CON ] [ [ "hiding" ] "(" [ entity { "," entity } ] ")" ]
topdecl  = "data" con { TYVAR } [ "=" constr { "|" constr } ] [ "deriving" "(" [ qcon { "," qcon } ] ")" ]
topdecl  = "class" [ context "=>" ] con TYVAR [ "where" decls ]
topdecl  = "instance" [ context "=>" ] qcon atype [ "where" decls ]
topdecl  = decl
constr   = con { atype } | btype conop btype | con "{" [ fields { "," fields } ] "}"
fields   = var { "," var } "::" type
decl     = var { "," var } "::" [ context "=>" ] type
decl     = ( "infixl" | "infixr" | "infix" ) [ INT ] op { "," op }
decl     = lhs rhs | pat rhs
lhs      = var { apat } | pat varop pat | "(" lhs ")" apat { apat }
rhs      = ( "=" exp | "|" exp "=" exp { "|" exp "=" exp } ) [ "where" decls ]
context  = pred | "(" [ pred { "," pred } ] ")"
pred     = qcon TYVAR
type     = btype [ "->" type ]
btype    = atype { atype }
atype    = qcon | TYVAR | "(" ")" | "(" type ")" | "(" type "," type { "," type } ")" | "[" type "]" | "[" "]" | "(" "->" ")" | "(" "," { "," } ")"
exp      = infixexp [ "::" [ context "=>" ] type ]
infixexp = [ MINUS ] exp10 { qop [ MINUS ] exp10 }
exp10    = "\" apat { apat } "->" exp | "let" decls "in" exp | "if" exp [ ";" ] "then" exp [ ";" ] "else" exp | closed
closed   = "case" exp "of" "{" { ";" } [ alt { ";" { ";" } alt } { ";" } ] "}" | "do" "{" { ";" } [ stmt { ";" { ";" } stmt } { ";" } ] "}" | aexp { aexp }
aexp     = qvar | gcon | literal | "(" exp ")" | "(" exp "," exp { "," exp } ")" | "[" [ exp { "," exp } ] "]"
aexp     = "[" exp ".." exp "]" | "[" exp "|" stmt { "," stmt } "]" | "(" before qop ")" | "(" rop infixexp ")" | aexp "{" [ fbind { "," fbind } ] "}"
before   = { [ MINUS ] ( closed | ( "\" apat { apat } "->" | "let" decls "in" | "if" exp [ ";" ] "then" exp [ ";" ] "else" ) infixexp "::" [ context "=>" ] type ) qop } [ MINUS ] closed
fbind    = var "=" exp
alt      = pat ( "->" exp | "|" gexp "->" exp { "|" gexp "->" exp } ) [ "where" decls ]
gexp     = { [ MINUS ] exp10 qop } [ MINUS ] gexp10 | infixexp "::" [ context "=>" ] type NEVER
gexp10   = "\" apat { apat } "->" gexp | "let" decls "in" gexp | "if" exp [ ";" ] "then" exp [ ";" ] "else" gexp | closed
stmt     = pat "<-" exp | "let" decls | "let" decls "in" exp | ( first | MINUS exp10 ) { qop [ MINUS ] exp10 } [ "::" [ context "=>" ] type ]
first    = "\" apat { apat } "->" exp | "if" exp [ ";" ] "then" exp [ ";" ] "else" exp | closed
decls    = "{" { ";" } [ decl { ";" { ";" } decl } { ";" } ] "}"
pat      = lpat { conop lpat }
lpat     = MINUS INT | gcon apat { apat } | apat
apat     = var [ "@" apat ] | gcon | qcon "{" [ var "=" pat { "," var "=" pat } ] "}" | literal | "_" | "(" pat ")"
apat     = "(" pat "," pat { "," pat } ")" | "[" [ pat { "," pat } ] "]" | "~" apat
gcon     = qcon | "(" ")" | "[" "]" | "(" "," { "," } ")"
literal  = INT | CHAR | STRING
var      = VAR | "(" anyop ")"
anyop    = OP | MINUS
qvar     = var | QVAR | "(" QOP ")"
con      = CON | "(" CONOP ")"
qcon     = con | QCON | "(" QCONOP ")"
conop    = CONOP | back CON back
varop    = anyop | back VAR back
op       = conop | varop
rop      = OP | CONOP | QOP | QCONOP | back ( VAR | QVAR | CON | QCON ) back
qop      = rop | MINUS
back     = BACK
`

// grammar is a context-free grammar: for each name its alternatives, lists of names and terminals.
type grammar struct {
	rules map[string][][]string
	least map[string]int // the least number of tokens of a name
	count int
}

// readGrammar translates brackets, braces and groups into names of their own.
func readGrammar() *grammar {
	g := &grammar{rules: map[string][][]string{}, least: map[string]int{}}
	for _, line := range strings.Split(strings.TrimSpace(grammarText), "\n") {
		words := strings.Fields(line)
		alts, rest := g.alternatives(words[2:])
		if len(rest) > 0 {
			panic(line)
		}
		g.rules[words[0]] = append(g.rules[words[0]], alts...)
	}
	g.measure()
	return g
}

// alternatives reads up to a closing bracket.
func (g *grammar) alternatives(words []string) (alts [][]string, rest []string) {
	alt := []string{}
	for len(words) > 0 {
		word := words[0]
		words = words[1:]
		switch word {
		case "|":
			alts, alt = append(alts, alt), []string{}
		case "(", "[", "{":
			var inner [][]string
			inner, words = g.alternatives(words)
			alt = append(alt, g.group(word, inner))
		case ")", "]", "}":
			return append(alts, alt), words
		default:
			alt = append(alt, word)
		}
	}
	return append(alts, alt), nil
}

// group returns a name for alternatives in brackets.
func (g *grammar) group(bracket string, alts [][]string) string {
	g.count++
	name := "group" + strings.Repeat("'", g.count)
	switch bracket {
	case "[":
		alts = append(alts, []string{})
	case "{":
		for i := range alts {
			alts[i] = append(alts[i], name)
		}
		alts = append(alts, []string{})
	}
	g.rules[name] = alts
	return name
}

// measure finds the least number of tokens of every name.
func (g *grammar) measure() {
	for name := range g.rules {
		g.least[name] = 1000
	}
	g.least["NEVER"] = 1000
	for changed := true; changed; {
		changed = false
		for name, alts := range g.rules {
			for _, alt := range alts {
				if n := g.leastOf(alt); n < g.least[name] {
					g.least[name], changed = n, true
				}
			}
		}
	}
}

func (g *grammar) leastOf(alt []string) int {
	sum := 0
	for _, symbol := range alt {
		if n, ok := g.least[symbol]; ok {
			sum += n
		} else {
			sum++
		}
	}
	return sum
}

// derive returns random tokens of a symbol, about as many as the budget permits.
func (g *grammar) derive(r *rand.Rand, symbol string, budget int) []api.Token {
	alts, ok := g.rules[symbol]
	if !ok {
		return []api.Token{randomToken(r, symbol)}
	}
	var fitting [][]string
	for _, alt := range alts {
		// Where there is room, what is optional is there more often.
		if n := g.leastOf(alt); n <= max(budget, g.least[symbol]) && (n > 0 || budget < 3 || r.Intn(4) == 0) {
			fitting = append(fitting, alt)
		}
	}
	alt := alts[len(alts)-1]
	if len(fitting) > 0 {
		alt = fitting[r.Intn(len(fitting))]
	}
	spare := max(0, budget-g.leastOf(alt))
	var toks []api.Token
	for _, symbol := range alt {
		share := r.Intn(spare + 1)
		toks = append(toks, g.derive(r, symbol, g.least[symbol]+share)...)
		spare -= share
	}
	return toks
}

// randomToken returns a token that a terminal matches.
func randomToken(r *rand.Rand, terminal string) api.Token {
	pick := func(op api.TokenOp, qual string, texts ...string) api.Token {
		return api.Token{Op: op, Qual: qual, Text: texts[r.Intn(len(texts))]}
	}
	switch terminal {
	case "VAR":
		return pick(api.TokVar, "", "x", "y", "f", "forall")
	case "TYVAR":
		return pick(api.TokVar, "", "a", "b")
	case "QVAR":
		return pick(api.TokVar, "M", "x")
	case "CON":
		return pick(api.TokCon, "", "A", "B")
	case "QCON":
		return pick(api.TokCon, "M", "C")
	case "OP":
		return pick(api.TokOp, "", "+", "*")
	case "MINUS":
		return pick(api.TokOp, "", "-")
	case "QOP":
		return pick(api.TokOp, "M", "+", "-")
	case "CONOP":
		return pick(api.TokConOp, "", ":", ":+")
	case "QCONOP":
		return pick(api.TokConOp, "M", ":+")
	case "INT":
		return api.Token{Op: api.TokInt, N: r.Intn(12)}
	case "CHAR":
		return api.Token{Op: api.TokChar, N: r.Intn(256)}
	case "STRING":
		return pick(api.TokString, "", "a", "")
	case "BACK":
		return api.Token{Op: api.TokSpecial, Text: "`"}
	}
	text := strings.Trim(terminal, `"`)
	switch {
	case strings.Contains("()[]{},;", text):
		return api.Token{Op: api.TokSpecial, Text: text}
	case text[0] >= 'a' && text[0] <= 'z' || text == "_":
		return api.Token{Op: api.TokWord, Text: text}
	}
	return api.Token{Op: api.TokSym, Text: text}
}

// matches reports whether a terminal matches a token.
func matches(terminal string, tok api.Token) bool {
	minus := tok.Op == api.TokOp && tok.Qual == "" && tok.Text == "-"
	switch terminal {
	case "VAR":
		return tok.Op == api.TokVar && tok.Qual == ""
	case "TYVAR":
		return tok.Op == api.TokVar && tok.Qual == "" && tok.Text != "forall"
	case "QVAR":
		return tok.Op == api.TokVar && tok.Qual != ""
	case "CON":
		return tok.Op == api.TokCon && tok.Qual == ""
	case "QCON":
		return tok.Op == api.TokCon && tok.Qual != ""
	case "OP":
		return tok.Op == api.TokOp && tok.Qual == "" && !minus
	case "MINUS":
		return minus
	case "QOP":
		return tok.Op == api.TokOp && tok.Qual != ""
	case "CONOP":
		return tok.Op == api.TokConOp && tok.Qual == ""
	case "QCONOP":
		return tok.Op == api.TokConOp && tok.Qual != ""
	case "INT":
		return tok.Op == api.TokInt
	case "CHAR":
		return tok.Op == api.TokChar
	case "STRING":
		return tok.Op == api.TokString
	case "BACK":
		return tok.Op == api.TokSpecial && tok.Text == "`"
	}
	fixed := tok.Op == api.TokSpecial || tok.Op == api.TokWord || tok.Op == api.TokSym
	return fixed && terminal == `"`+tok.Text+`"`
}

// item is a rule that has been recognized up to a point since a place.
type item struct {
	name     string
	alt, dot int
	since    int
}

// recognize returns the index of the first token that cannot follow those before it, or the number of tokens if there is none, and whether all tokens are derivable: Earley's algorithm.
func (g *grammar) recognize(start string, toks []api.Token) (bad int, derivable bool) {
	sets := make([]map[item]bool, len(toks)+1)
	var order []item
	add := func(at int, it item) {
		if !sets[at][it] {
			sets[at][it] = true
			order = append(order, it)
		}
	}
	sets[0] = map[item]bool{}
	for alt := range g.rules[start] {
		add(0, item{start, alt, 0, 0})
	}
	for at := 0; at <= len(toks); at++ {
		done := map[string]bool{} // what is empty here
		for i := 0; i < len(order); i++ {
			it := order[i]
			rest := g.rules[it.name][it.alt][it.dot:]
			if len(rest) == 0 {
				for before := range sets[it.since] {
					if g.next(before) == it.name {
						before.dot++
						add(at, before)
					}
				}
				if it.since == at {
					done[it.name] = true
				}
				continue
			}
			for alt := range g.rules[rest[0]] {
				add(at, item{rest[0], alt, 0, at})
			}
			if done[rest[0]] {
				it.dot++
				add(at, it)
			}
		}
		derivable = false
		for alt, rule := range g.rules[start] {
			derivable = derivable || sets[at][item{start, alt, len(rule), 0}]
		}
		if at == len(toks) {
			return at, derivable
		}
		scanned := order
		order = nil
		sets[at+1] = map[item]bool{}
		for _, it := range scanned {
			if terminal := g.next(it); terminal != "" && matches(terminal, toks[at]) {
				it.dot++
				add(at+1, it)
			}
		}
		if len(order) == 0 {
			return at, false
		}
	}
	return 0, false
}

// next returns the symbol behind the point of an item.
func (g *grammar) next(it item) string {
	rule := g.rules[it.name][it.alt]
	if it.dot == len(rule) {
		return ""
	}
	return rule[it.dot]
}

func textOfAll(toks []api.Token) string {
	var texts []string
	for _, tok := range toks {
		texts = append(texts, textOf(tok))
	}
	return strings.Join(texts, " ")
}

// checkAgainst compares what a reader does with tokens to what the grammar says.
func checkAgainst(t *testing.T, g *grammar, start string, toks []api.Token, read func(*parser)) bool {
	t.Helper()
	p := &parser{toks: toks}
	_, ok := attempt(p, func() bool {
		read(p)
		p.require(p.at == len(toks))
		return true
	})
	bad, derivable := g.recognize(start, toks)
	if ok != derivable || !ok && p.far != bad {
		t.Fatalf("%s\nread: %v, token %d; by the grammar: %v, token %d\n%s", textOfAll(toks), ok, p.far, derivable, bad, textOfAll(toks[:min(bad+1, len(toks))]))
	}
	return ok
}

// change makes a random change to tokens.
func change(r *rand.Rand, toks []api.Token, others []api.Token) []api.Token {
	i := r.Intn(len(toks))
	other := others[r.Intn(len(others))]
	var result []api.Token
	switch r.Intn(4) {
	case 0:
		result = append(append(result, toks[:i]...), toks[i+1:]...)
	case 1:
		result = append(append(append(result, toks[:i]...), other), toks[i:]...)
	case 2:
		result = append(result, toks[:i]...)
	default:
		result = append(result, toks...)
		result[i] = other
	}
	return result
}

// P7.1, P7.4: what is derivable is read, and the fault is at the first token that makes it impossible.
func TestGrammar(t *testing.T) {
	g := readGrammar()
	r := rand.New(rand.NewSource(1))
	readers := []struct {
		start  string
		budget int
		read   func(*parser)
	}{
		{"module", 40, func(p *parser) { p.module() }},
		{"exp", 30, func(p *parser) { p.exp() }},
		{"pat", 20, func(p *parser) { p.pat() }},
		{"decls", 30, func(p *parser) { p.locals() }},
		{"topdecl", 25, func(p *parser) { p.topDecl() }},
		{"stmt", 25, func(p *parser) { p.stmt() }},
		{"alt", 25, func(p *parser) { p.alt() }},
		{"constr", 12, func(p *parser) { p.conDecl() }},
	}
	for range 600 {
		for _, c := range readers {
			toks := g.derive(r, c.start, r.Intn(c.budget))
			if !checkAgainst(t, g, c.start, toks, c.read) {
				t.Fatalf("%s is derived, and not read", textOfAll(toks))
			}
			others := g.derive(r, c.start, c.budget)
			for range 4 {
				if len(toks) > 0 {
					toks = change(r, toks, others)
					checkAgainst(t, g, c.start, toks, c.read)
				}
			}
		}
	}
}
