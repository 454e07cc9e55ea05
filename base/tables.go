package base

import (
	"strings"

	"lazyc/api"
	"lazyc/types"
)

// The names that both a table and the arithmetic contain.
const (
	falseName     = "False"
	trueName      = "True"
	divByZeroName = "DivByZero"
	failureName   = "Failure"
)

// primRow is a primitive, with the text of its scheme.
type primRow struct {
	name   string
	scheme string
	arity  int
}

// primRows returns the primitives, in the order of their numbers.
func primRows() []primRow {
	return []primRow{
		{"intAdd", "Int -> Int -> Int", 2},
		{"intSub", "Int -> Int -> Int", 2},
		{"intMul", "Int -> Int -> Int", 2},
		{"intQuot", "Int -> Int -> Int", 2},
		{"intRem", "Int -> Int -> Int", 2},
		{"intNeg", "Int -> Int", 1},
		{"intEq", "Int -> Int -> Bool", 2},
		{"intLt", "Int -> Int -> Bool", 2},
		{"intLe", "Int -> Int -> Bool", 2},
		{"ord", "Char -> Int", 1},
		{"chr", "Int -> Char", 1},
		{"seq", "forall a b. a -> b -> b", 2},
		{"raise", "forall a. Exc -> a", 1},
		{"returnIO", "forall a. a -> IO a", 1},
		{"bindIO", "forall a b. IO a -> (a -> IO b) -> IO b", 2},
		{"putChar", "Char -> IO ()", 1},
		{"getChar", "IO Int", 0},
		{"throwIO", "forall a. Exc -> IO a", 1},
		{"evaluate", "forall a. a -> IO a", 1},
		{"catchIO", "forall a. IO a -> (Exc -> IO a) -> IO a", 2},
		{"maskIO", "forall a. IO a -> IO a", 1},
		{"unmaskIO", "forall a. IO a -> IO a", 1},
	}
}

func (row primRow) prim() api.Prim {
	scheme, _ := types.ParseScheme(row.scheme)
	return api.Prim{Name: row.name, Scheme: scheme, Arity: row.arity}
}

// dataRow is a data type, with the names of its parameters, separated by blanks.
type dataRow struct {
	name, params string
	cons         []conRow
}

// conRow is a constructor, with the texts of its fields, separated by blanks.
type conRow struct {
	name, fields string
}

// dataRows returns the built-in data types, in order.
func dataRows() []dataRow {
	rows := []dataRow{
		{name: "Int"},
		{name: "Char"},
		{name: "->", params: "a b"},
		{name: "IO", params: "a"},
		{"Bool", "", []conRow{{falseName, ""}, {trueName, ""}}},
		{"[]", "a", []conRow{{"[]", ""}, {":", "a [a]"}}},
	}
	for n := range api.MaxTuple + 1 {
		if n != 1 {
			rows = append(rows, tupleRow(n))
		}
	}
	return append(rows, exceptionRow())
}

// tupleRow returns the type of tuples with n components.
func tupleRow(n int) dataRow {
	var params []string
	for i := range n {
		params = append(params, string(rune('a'+i)))
	}
	name, all := Tuple(n), strings.Join(params, " ")
	return dataRow{name, all, []conRow{{name, all}}}
}

func exceptionRow() dataRow {
	return dataRow{"Exc", "", []conRow{{divByZeroName, ""}, {"NoMatch", ""}, {"Loop", ""}, {failureName, "Int"}, {"Interrupt", "Int"}}}
}

func (row dataRow) data() api.Data {
	data := api.Data{Name: row.name}
	for _, param := range strings.Fields(row.params) {
		data.Params = append(data.Params, api.TyVar{Name: param})
	}
	for _, con := range row.cons {
		data.Cons = append(data.Cons, con.con())
	}
	return data
}

func (row conRow) con() api.Con {
	con := api.Con{Name: row.name}
	for _, text := range strings.Fields(row.fields) {
		field, _ := types.Parse(text)
		con.Fields = append(con.Fields, field)
	}
	return con
}

// declares reports whether a name is that of the data type, or of one of its constructors.
func (row dataRow) declares(name string) bool {
	if row.name == name {
		return true
	}
	for _, con := range row.cons {
		if con.name == name {
			return true
		}
	}
	return false
}
