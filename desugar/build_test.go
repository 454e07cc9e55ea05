package desugar

import (
	"strings"

	"lazyc/api"
)

// data returns a data type with constructors, which are separated by bars: a name, and names of fields, which are labels unless they are points. All fields are integers.
func data(name, text string) api.Data {
	d := api.Data{Name: name}
	for part := range strings.SplitSeq(text, "|") {
		parts := strings.Fields(part)
		con := api.Con{Name: parts[0]}
		for _, label := range parts[1:] {
			con.Fields = append(con.Fields, api.Type{Op: api.TCon, Name: "Int"})
			if label != "." {
				con.Labels = append(con.Labels, label)
			}
		}
		d.Cons = append(d.Cons, con)
	}
	return d
}
