package modgraph

import (
	"fmt"
	"reflect"
	"slices"
	"strconv"
	"strings"
	"testing"

	"lazyc/api"
)

// read returns modules from a text of names, each with its imports: "A:B,B C".
func read(text string) []api.Module {
	var l []api.Module
	for _, word := range strings.Fields(text) {
		name, rest, _ := strings.Cut(word, ":")
		m := api.Module{Name: name, All: true}
		if rest != "" {
			for _, imported := range strings.Split(rest, ",") {
				m.Imports = append(m.Imports, api.Import{Module: imported, As: imported, All: true})
			}
		}
		l = append(l, m)
	}
	return l
}

func words(list []string) string { return strings.Join(list, " ") }

func levels(lists [][]string) string {
	var parts []string
	for _, list := range lists {
		parts = append(parts, words(list))
	}
	return strings.Join(parts, " | ")
}

// P10.1, P10.2: the order and the levels.
func TestOrder(t *testing.T) {
	for _, c := range []struct{ modules, order, levels string }{
		{"", "", ""},
		{"A", "A", "A"},
		{"A:B B C", "B A C", "B C | A"},
		{"A:C B C", "B C A", "B C | A"},
		{"C B A", "A B C", "A B C"},
		{"A:B B:C C:D D", "D C B A", "D | C | B | A"},
		{"D:B,C C:A B:A A", "A B C D", "A | B C | D"},
		{"A:D B:C C D:C,B", "C B D A", "C | B | D | A"},
		{"A:B,B,B B", "B A", "B | A"},
		{"A:Z M:A,Z Z B:M C", "C Z A M B", "C Z | A | M | B"},
		{"B b a:b A:a Ab Aa", "Aa Ab B b a A", "Aa Ab B b | a | A"},
		{"x:\x00 \x00 \xff:x é", "\x00 x é \xff", "\x00 é | x | \xff"},
	} {
		order, one := Order(read(c.modules))
		lists, two := Levels(read(c.modules))
		if words(order) != c.order || one != (api.Fault{}) {
			t.Errorf("%q: %q with %v, want %q", c.modules, words(order), one, c.order)
		}
		if levels(lists) != c.levels || two != (api.Fault{}) {
			t.Errorf("%q: %q with %v, want %q", c.modules, levels(lists), two, c.levels)
		}
		if cycle := Cycle(read(c.modules)); len(cycle) > 0 {
			t.Errorf("%q: the cycle %v", c.modules, cycle)
		}
	}
}

// P10.1, P10.3: what a module imports and what imports it, directly and indirectly.
func TestNeeds(t *testing.T) {
	for _, c := range []struct{ modules, name, needs, users string }{
		{"A", "A", "", ""},
		{"A:B B C", "A", "B", ""},
		{"A:B B C", "B", "", "A"},
		{"A:B B C", "C", "", ""},
		{"Z:Y,X Y:W X:W W V:Z", "Z", "W X Y", "V"},
		{"Z:Y,X Y:W X:W W V:Z", "W", "", "V X Y Z"},
		{"Z:Y,X Y:W X:W W V:Z", "X", "W", "V Z"},
		{"Z:Y,X Y:W X:W W V:Z", "V", "W X Y Z", ""},
		{"B:C,C,C C a:B", "B", "C", "a"},
	} {
		needs, one := Needs(read(c.modules), c.name)
		users, two := Users(read(c.modules), c.name)
		if words(needs) != c.needs || one != (api.Fault{}) {
			t.Errorf("%q: %s needs %q with %v, want %q", c.modules, c.name, words(needs), one, c.needs)
		}
		if words(users) != c.users || two != (api.Fault{}) {
			t.Errorf("%q: %s is used by %q with %v, want %q", c.modules, c.name, words(users), two, c.users)
		}
	}
}

// P10.1: a name that the list does not have, after the fault of the list.
func TestNeedsUnknown(t *testing.T) {
	for _, c := range []struct {
		modules, name string
		want          api.Fault
	}{
		{"", "A", api.Fault{Code: api.ErrModule, Name: "A"}},
		{"", "", api.Fault{Code: api.ErrModule}},
		{"A:B B", "C", api.Fault{Code: api.ErrModule, Name: "C"}},
		{"A:B B", "a", api.Fault{Code: api.ErrModule, Name: "a"}},
		{"A:B,C B", "D", api.Fault{Code: api.ErrModule, Name: "C"}},
		{"A B A", "D", api.Fault{Code: api.ErrTwice, Name: "A"}},
		{"B:B A", "D", api.Fault{Code: api.ErrCycle, Name: "B"}},
	} {
		needs, one := Needs(read(c.modules), c.name)
		users, two := Users(read(c.modules), c.name)
		if needs != nil || users != nil || one != c.want || two != c.want {
			t.Errorf("%q: %s: %v with %v, %v with %v, want %v", c.modules, c.name, needs, one, users, two, c.want)
		}
	}
}

// P10.1: the faults of a list, in their order.
func TestFaults(t *testing.T) {
	var many []string
	for i := range api.MaxModules {
		many = append(many, "M"+strconv.Itoa(i))
	}
	full := words(many)
	for _, c := range []struct {
		modules string
		want    api.Fault
	}{
		{full, api.Fault{}},
		{full + " N", api.Fault{Code: api.ErrLong}},
		{full + " M0", api.Fault{Code: api.ErrLong}},
		{"N:X " + full, api.Fault{Code: api.ErrLong}},
		{"N:N " + full + " O", api.Fault{Code: api.ErrLong}},
		{"A:X A", api.Fault{Code: api.ErrTwice, Name: "A"}},
		{"B A C A B", api.Fault{Code: api.ErrTwice, Name: "A"}},
		{"B A B A", api.Fault{Code: api.ErrTwice, Name: "B"}},
		{"B:B B", api.Fault{Code: api.ErrTwice, Name: "B"}},
		{"A:X", api.Fault{Code: api.ErrModule, Name: "X"}},
		{"A:B,Y,X B", api.Fault{Code: api.ErrModule, Name: "Y"}},
		{"B:Y A:X", api.Fault{Code: api.ErrModule, Name: "Y"}},
		{"A:A B:X", api.Fault{Code: api.ErrModule, Name: "X"}},
		{"A:a", api.Fault{Code: api.ErrModule, Name: "a"}},
		{"A:A", api.Fault{Code: api.ErrCycle, Name: "A"}},
		{"C:A D A:B,C B:A", api.Fault{Code: api.ErrCycle, Name: "A"}},
		{"A:B B:C C:A D:D", api.Fault{Code: api.ErrCycle, Name: "D"}},
	} {
		order, one := Order(read(c.modules))
		lists, two := Levels(read(c.modules))
		if one != c.want || two != c.want || (c.want.Code != api.OK) != (order == nil) || (order == nil) != (lists == nil) {
			t.Errorf("%q: %v with %v, %v with %v, want %v", c.modules, order, one, lists, two, c.want)
		}
		if cycle := Cycle(read(c.modules)); (cycle != nil) != (c.want.Code == api.ErrCycle) {
			t.Errorf("%q: the cycle %v", c.modules, cycle)
		}
	}
	unnamed := []api.Module{{Imports: []api.Import{{}}}}
	if _, fault := Order(unnamed); fault != (api.Fault{Code: api.ErrCycle}) {
		t.Errorf("a module without a name that imports itself: %v", fault)
	}
}

// P10.4: of the shortest cycles the smallest sequence.
func TestCycle(t *testing.T) {
	for _, c := range []struct{ modules, want string }{
		{"", ""},
		{"A:B B", ""},
		{"A:A", "A"},
		{"A:B B:A,C C:B", "A B"},
		{"A:B B:A,C C:B,C", "C"},
		{"B:B A:B", "B"},
		{"A:B B:C C:A", "A B C"},
		{"C:A B:C A:B", "A B C"},
		{"A:C C:B B:A", "A C B"},
		{"A:D,C,B B:E C:E D:E E:A", "A B E"},
		{"A:D,C,B B:F C:E D:E E:A F:G G:A", "A C E"},
		{"A:B B:C C:D D:A C:B", ""},
		{"A:B B:C C:D D:A,E E:F F:D", "D E F"},
		{"D:E E:D A:C C:A B:F F:B", "A C"},
		{"A:B,C B:D C:D D:A,B E:D,A", "B D"},
		{"A:B,C B:D C:D D:A E:D,A", "A B D"},
		{"A:A,X", ""},
		{"A:A A", ""},
	} {
		l := read(c.modules)
		if got := words(Cycle(l)); got != c.want {
			t.Errorf("%q: %s, want %s", c.modules, got, c.want)
		}
		_, fault := Order(l)
		if first, _, _ := strings.Cut(c.want, " "); c.want != "" && fault != (api.Fault{Code: api.ErrCycle, Name: first}) {
			t.Errorf("%q: %v, want the name %s", c.modules, fault, first)
		}
	}
}

// P10.1: nothing counts but the names of modules and imports.
func TestOtherFields(t *testing.T) {
	bare := read("A:B,B,C B:C C D:A,C")
	full := read("A:B,B,C B:C C D:A,C")
	for i := range full {
		full[i].All = i%2 == 0
		full[i].Exports = []api.Export{{Name: "?", With: true, Subs: []string{""}}}
		full[i].Decls = []api.Decl{{Op: -1}, {Op: api.DFun, Name: "A"}}
		for j := range full[i].Imports {
			full[i].Imports[j].Qualified = j%2 == 0
			full[i].Imports[j].As = "D"
			full[i].Imports[j].Hiding = true
			full[i].Imports[j].Names = []api.Export{{Name: "A"}}
		}
	}
	before := fmt.Sprint(full)
	one, _ := Order(bare)
	two, fault := Order(full)
	if !slices.Equal(one, two) || fault != (api.Fault{}) {
		t.Errorf("%v with %v, want %v", two, fault, one)
	}
	three, _ := Levels(bare)
	four, fault := Levels(full)
	if !reflect.DeepEqual(three, four) || fault != (api.Fault{}) {
		t.Errorf("%v with %v, want %v", four, fault, three)
	}
	if needs, fault := Needs(full, "D"); words(needs) != "A B C" || fault != (api.Fault{}) {
		t.Errorf("%v with %v", needs, fault)
	}
	if users, fault := Users(full, "B"); words(users) != "A D" || fault != (api.Fault{}) {
		t.Errorf("%v with %v", users, fault)
	}
	if Cycle(full) != nil || fmt.Sprint(full) != before {
		t.Errorf("the argument has changed, or has a cycle")
	}
}

// Lists of a result share no memory.
func TestMemory(t *testing.T) {
	lists, _ := Levels(read("A B C:A D:A E:C"))
	for i := range lists {
		lists[i] = append(lists[i], "x", "y")
	}
	if got := levels(lists); got != "A B x y | C D x y | E x y" {
		t.Errorf("levels share memory: %s", got)
	}
}
