package cover

import (
	"slices"
	"strings"
	"testing"

	"lazyc/api"
	"lazyc/fixity"
	"lazyc/match"
	"lazyc/names"
	"lazyc/parser"
	"lazyc/syntax"
	"lazyc/trees"
)

// pats returns patterns, which are separated by semicolons.
func pats(t *testing.T, text string) []api.Pat {
	t.Helper()
	var list []api.Pat
	for part := range strings.SplitSeq(text, ";") {
		if part == "" {
			continue
		}
		p, fault := parser.Pat(part)
		if fault == (api.Fault{}) {
			p, fault = fixity.Pat(nil, p)
		}
		if fault != (api.Fault{}) {
			t.Fatal(part, fault)
		}
		list = append(list, p)
	}
	return list
}

// rows returns the rows of a matrix, which are separated by bars.
func rows(t *testing.T, text string) [][]api.Pat {
	t.Helper()
	if text == "" {
		return nil
	}
	return trees.Map(strings.Split(text, "|"), func(row string) []api.Pat { return pats(t, row) })
}

// printed returns the text of patterns.
func printed(list []api.Pat) string { return strings.Join(trees.Map(list, syntax.PrintPat), " ; ") }

func words(text string) []string { return strings.Fields(text) }

// data returns a data type with constructors, which are separated by bars: a name, and names of fields, which are labels unless they are points.
func data(name, text string) api.Data {
	d := api.Data{Name: name}
	for part := range strings.SplitSeq(text, "|") {
		parts := words(part)
		con := api.Con{Name: parts[0]}
		for _, label := range parts[1:] {
			con.Fields = append(con.Fields, api.Type{Op: api.TCon, Name: "Int"})
			if label != "." {
				con.Labels = append(con.Labels, label)
			}
		}
		d.Cons = append(d.Cons, con)
	}
	return d
}

// testDatas has constructors without fields, with labels, and, in the last data type, one of the name of an earlier one.
func testDatas() []api.Data {
	return []api.Data{data("Color", "Red | Green | Blue"), data("Tree", "Leaf | Node left key right | Tip text"), data("Box", "Box ."), data("Late", "Last | Red .")}
}

// P15.1: what Missing returns, and P15.2: the order of its choices.
func TestMissing(t *testing.T) {
	for _, x := range []struct {
		rows, want string
	}{
		{"[];_ | x:_;0", "( : ) _ _ ; 1"},
		{"0 | 2", "1"},
		{"1 | 2", "0"},
		{"-1 | 0 | 1", "2"},
		{"0 | 1 | _", ""},
		{"0 | x@(-3)", "1"},
		{"0;True | 1;True", "2 ; _"},
		{"0;_ | _;True", "1 ; False"},
		{"0;True | 0;False | _;True", "1 ; False"},
		{"3;True | _;_", ""},
		{"'\\x00' | '\\x02'", `'\x01'`},
		{"True;_ | _;True", "False ; False"},
		{"True;False | False;_", "True ; True"},
		{"True | False", ""},
		{"True | False | _", ""},
		{"False", "True"},
		{"Red", "Green"},
		{"Blue", "Red"},
		{"Blue | Red", "Green"},
		{"Red;0 | _;1 | Green;_", "Red ; 2"},
		{"Node { key = 0 } | Leaf", "Node _ 1 _"},
		{"Node { right = Leaf, left = Leaf } | Leaf | Tip {}", "Node Leaf _ ( Node _ _ _ )"},
		{"Box { }", ""},
		{"Box Red | Box Blue", "Box Green"},
		{"Box (Box x)", ""},
		{"(x, True) | (0, _)", "(,) 1 False"},
		{"(x, y)", ""},
		{"()", ""},
		{"[_] | []", "( : ) _ ( ( : ) _ _ )"},
		{"[True] | _ : [] | []", "( : ) False ( ( : ) _ _ )"},
		{`"ab" | ""`, `( : ) '\x00' _`},
		{`"" | 'a' : _`, `( : ) '\x00' _`},
		{`"" | '\x00' : 'b' : _`, `( : ) '\x01' _`},
		{"~(x, True)", ""},
		{"~True | ~False", ""},
		{"~True;True", "_ ; False"},
		{"x@_;True", "_ ; False"},
		{"x@(y@True)", "False"},
		{"_;_;_", ""},
		{"Failure 3 | Interrupt _ | Loop | NoMatch", "DivByZero"},
		{"True;_;True | True;True;True | False;True;_ | False;False;_", "True ; False ; False"},
		{"True;_;True | False;True;_ | False;False;_", "True ; _ ; False"},
	} {
		list := rows(t, x.rows)
		got, ok, code := Missing(testDatas(), list, len(list[0]))
		if code != api.OK || ok != (x.want != "") || printed(got) != x.want {
			t.Errorf("Missing of %s: %s, %t, the error %d, want %s", x.rows, printed(got), ok, code, x.want)
		}
	}
}

// P15.1: no columns, and no rows.
func TestMissingOfNothing(t *testing.T) {
	for _, x := range []struct {
		rows [][]api.Pat
		n    int
		ok   bool
	}{{nil, 0, true}, {[][]api.Pat{{}}, 0, false}, {[][]api.Pat{nil, {}}, 0, false}, {nil, 1, true}, {[][]api.Pat{}, 3, true}, {nil, 20000, true}} {
		got, ok, code := Missing(nil, x.rows, x.n)
		if code != api.OK || ok != x.ok || len(got) != x.n {
			t.Errorf("Missing of %v with %d columns: %v, %t, the error %d", x.rows, x.n, got, ok, code)
		}
		for _, p := range got {
			if !syntax.SamePat(p, api.Pat{Op: api.PWild}) {
				t.Errorf("Missing without rows: %v", got)
			}
		}
	}
}

// chars returns rows of one character each.
func chars(from, to int) [][]api.Pat {
	var list [][]api.Pat
	for n := from; n <= to; n++ {
		list = append(list, []api.Pat{{Op: api.PChar, N: n}})
	}
	return list
}

// P15.1: characters are a finite family, and integers are not.
func TestAllCharacters(t *testing.T) {
	for _, x := range []struct {
		rows [][]api.Pat
		want int
	}{{chars(0, api.MaxChar), -1}, {chars(0, api.MaxChar-1), api.MaxChar}, {chars(1, api.MaxChar), 0}, {append(chars(0, 9), chars(11, api.MaxChar)...), 10}} {
		slices.Reverse(x.rows)
		got, ok, code := Missing(nil, x.rows, 1)
		if code != api.OK || ok != (x.want >= 0) || ok && !syntax.SamePat(got[0], api.Pat{Op: api.PChar, N: x.want}) {
			t.Errorf("Missing returned %v, %t and the error %d, want %d", got, ok, code, x.want)
		}
	}
	list := chars(0, api.MaxChar)
	for i := range list {
		second := api.Pat{Op: api.PInt, N: 7}
		if i == 5 {
			second.N = 8
		}
		list[i] = append(list[i], second)
	}
	anyRow := []api.Pat{{Op: api.PWild}, {Op: api.PInt, N: 0}}
	got, ok, code := Missing(nil, append(list, anyRow), 2)
	if code != api.OK || !ok || printed(got) != `'\x00' ; 1` {
		t.Errorf("Missing returned %s, %t and the error %d", printed(got), ok, code)
	}
	list[0][1] = api.Pat{Op: api.PWild}
	if got, _, _ = Missing(nil, append(list, anyRow), 2); printed(got) != `'\x01' ; 1` {
		t.Errorf("Missing returned %s", printed(got))
	}
	for n := range 300 {
		list = append(list, []api.Pat{{Op: api.PInt, N: n}})
	}
	if got, _, _ := Missing(nil, list[api.MaxChar+1:], 1); printed(got) != "300" {
		t.Errorf("Missing returned %s", printed(got))
	}
}

// P15.1: what Useful returns.
func TestUseful(t *testing.T) {
	for _, x := range []struct {
		rows, pats string
		want       bool
	}{
		{"True;_ | _;True", "_;False", true},
		{"True;_ | _;True", "True;False", false},
		{"True;_ | _;True", "_;_", true},
		{"True;_ | _;True", "_;True", false},
		{"", "True", true},
		{"", "x;y", true},
		{"0 | 1", "1", false},
		{"0 | 1", "2", true},
		{"0 | 1", "x", true},
		{"'a'", "'b'", true},
		{"[] | [_] | _ : _ : _", "_", false},
		{"[] | _ : _ : _", "[x]", true},
		{"[] | _ : _ : _", "[x, y]", false},
		{"\"abc\"", "['a', 'b', _]", true},
		{"['a', 'b', _]", "\"abc\"", false},
		{"Node { key = 0 }", "Node _ 0 Leaf", false},
		{"Node { key = 0 }", "Node {}", true},
		{"Red | Green", "~Blue", true},
		{"~Red", "Green", false},
		{"Red | Green", "x@Blue", true},
		{"Red | Green", "x@Green", false},
		{"(True, False) | (False, True)", "(x, x)", true},
		{"Box Red | Box Green | Box Blue", "Box _", false},
	} {
		got, code := Useful(testDatas(), rows(t, x.rows), pats(t, x.pats))
		if code != api.OK || got != x.want {
			t.Errorf("Useful of %s after %s: %t, the error %d", x.pats, x.rows, got, code)
		}
	}
	if got, code := Useful(nil, nil, nil); code != api.OK || !got {
		t.Error("no columns are not useful after no rows")
	}
	if got, code := Useful(nil, [][]api.Pat{{}}, nil); code != api.OK || got {
		t.Error("no columns are useful after a row")
	}
}

// P15.1: what Redundant returns.
func TestRedundant(t *testing.T) {
	for _, x := range []struct {
		rows string
		want []int
	}{
		{"0 | 1 | _", nil},
		{"True | False | _", []int{2}},
		{"_ | True | _ | False", []int{1, 2, 3}},
		{"True;_ | _;True | True;True | False;False | _;_", []int{2, 4}},
		{"x | y", []int{1}},
		{"Red;0 | _;1 | Green;_ | Red;1 | Green;2 | Blue;_", []int{3, 4}},
		{"", nil},
	} {
		got, code := Redundant(testDatas(), rows(t, x.rows))
		if code != api.OK || !slices.Equal(got, x.want) {
			t.Errorf("Redundant of %s: %v, the error %d, want %v", x.rows, got, code, x.want)
		}
	}
	if got, code := Redundant(nil, [][]api.Pat{{}, {}, {}}); code != api.OK || !slices.Equal(got, []int{1, 2}) {
		t.Errorf("Redundant without columns: %v, the error %d", got, code)
	}
}

// errorCase has rows for which all functions return an error; the last row is an argument of Useful by itself.
type errorCase struct {
	rows [][]api.Pat
	n    int
	want api.Errno
}

func (x errorCase) check(t *testing.T) {
	t.Helper()
	last := len(x.rows) - 1
	useful, code := Useful(testDatas(), x.rows[:last], x.rows[last])
	if code != x.want || useful {
		t.Errorf("Useful of %v: %t, the error %d, want %d", x.rows, useful, code, x.want)
	}
	list, ok, code := Missing(testDatas(), x.rows, x.n)
	if code != x.want || ok || list != nil {
		t.Errorf("Missing of %v: %v, %t, the error %d, want %d", x.rows, list, ok, code, x.want)
	}
	redundant, code := Redundant(testDatas(), x.rows)
	if code != x.want || redundant != nil {
		t.Errorf("Redundant of %v: %v, the error %d, want %d", x.rows, redundant, code, x.want)
	}
}

// P15.1: the errors, in their order.
func TestErrors(t *testing.T) {
	for text, want := range map[string]api.Errno{
		"'a' | \"x\"":                         api.ErrType,
		"0 | 'a'":                             api.ErrType,
		"True | Red":                          api.ErrType,
		"True;0 | False;'a'":                  api.ErrType,
		"(0, x) | (x, 'a') | (True, 'b')":     api.ErrType,
		"[0] | [True, _]":                     api.ErrType,
		"_;True | x@0;False | 'a';_":          api.ErrType,
		"Node { key = 1 } | Node _ 'a' _":     api.ErrType,
		"() | (x, y)":                         api.ErrType,
		"True;0;_ | _;'a';False":              api.ErrType,
		"C":                                   api.ErrScope,
		"'a' | 0 | C":                         api.ErrScope,
		"~C":                                  api.ErrScope,
		"True _":                              api.ErrArity,
		"Box":                                 api.ErrArity,
		"Red _":                               api.ErrArity,
		"~(Red _) | C":                        api.ErrArity,
		"Leaf { key = 0 }":                    api.ErrField,
		"Node { key = 0, key = 1 }":           api.ErrTwice,
		"Node { key = C } | Leaf { key = 1 }": api.ErrScope,
		"Node { key = 0, key = C } | Leaf { key = 1 }":   api.ErrTwice,
		"C;Red _ | Red _;C":                              api.ErrScope,
		"Red | Node { left = Box, right = C } | 'a' | 0": api.ErrArity,
	} {
		list := rows(t, text)
		errorCase{list, len(list[0]), want}.check(t)
	}
	paren := api.Pat{Op: api.PParen, Kids: pats(t, "x")}
	for _, x := range []errorCase{
		{[][]api.Pat{pats(t, "C"), {paren}}, 1, api.ErrArg},
		{[][]api.Pat{{{Op: api.PVar}}}, 1, api.ErrArg},
		{[][]api.Pat{{{}}}, 1, api.ErrArg},
		{[][]api.Pat{{{Op: api.PTuple, Kids: pats(t, "x")}}}, 1, api.ErrArg},
		{[][]api.Pat{pats(t, "C;0"), pats(t, "C")}, 2, api.ErrArity},
		{[][]api.Pat{{paren}, {paren, paren}}, 1, api.ErrArity},
	} {
		x.check(t)
	}
}

// P15.1: the number of columns.
func TestNumberOfColumns(t *testing.T) {
	wrong := [][]api.Pat{pats(t, "C;D")}
	for n, want := range map[int]api.Errno{-1: api.ErrArg, 0: api.ErrArity, 1: api.ErrArity, 2: api.ErrScope, 3: api.ErrArity} {
		if list, ok, code := Missing(nil, wrong, n); code != want || ok || list != nil {
			t.Errorf("%d columns: %v, %t and the error %d, want %d", n, list, ok, code, want)
		}
	}
	if _, _, code := Missing(nil, nil, -1); code != api.ErrArg {
		t.Errorf("the error %d for -1 columns without rows", code)
	}
	if _, code := Useful(nil, wrong, pats(t, "x")); code != api.ErrArity {
		t.Errorf("the error %d for a row of another length", code)
	}
}

// P15.1: the error of the patterns is that of match.Compile.
func TestErrorsOfCompile(t *testing.T) {
	for _, text := range []string{"C | Red _", "Red _ | C", "Node { text = 0 } | C", "True | (C, 0)", "x | ~(Box 0 1)"} {
		list := rows(t, text)
		var whole []api.Row
		for _, row := range list {
			whole = append(whole, api.Row{Pats: row})
		}
		_, fault := match.Compile(testDatas(), words("v"), whole, api.Kernel{}, names.NewSupply())
		if _, code := Redundant(testDatas(), list); code != fault.Code || code == api.OK {
			t.Errorf("%s: the error %d, want %d", text, code, fault.Code)
		}
	}
}

// The first data type with a constructor is its family.
func TestFirstData(t *testing.T) {
	if got, ok, code := Missing(testDatas(), rows(t, "Last"), 1); !ok || code != api.OK || printed(got) != "Red" {
		t.Errorf("Missing returned %s, %t and the error %d", printed(got), ok, code)
	}
	if _, _, code := Missing(testDatas(), rows(t, "Last | Red"), 1); code != api.ErrType {
		t.Errorf("the error %d for constructors of two data types", code)
	}
	shadow := []api.Data{data("Mine", "True | Maybe")}
	if got, _, code := Missing(shadow, rows(t, "True"), 1); code != api.OK || printed(got) != "Maybe" {
		t.Errorf("Missing returned %s and the error %d", printed(got), code)
	}
}
