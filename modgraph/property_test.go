package modgraph

import (
	"math/rand"
	"reflect"
	"slices"
	"strconv"
	"testing"

	"lazyc/api"
)

// random returns modules with about as many imports each as given; in an acyclic list they are imports of modules before them in a random order.
func random(r *rand.Rand, count int, density float64, acyclic bool) []api.Module {
	l := make([]api.Module, count)
	order := r.Perm(count)
	for i := range l {
		l[i].Name = "M" + strconv.Itoa(i)
	}
	for range int(float64(count) * density) {
		from, to := r.Intn(count), r.Intn(count)
		if acyclic && order[from] <= order[to] {
			continue
		}
		l[from].Imports = append(l[from].Imports, api.Import{Module: l[to].Name})
	}
	r.Shuffle(count, func(i, j int) { l[i], l[j] = l[j], l[i] })
	return l
}

func find(l []api.Module, name string) api.Module {
	return l[slices.IndexFunc(l, func(m api.Module) bool { return m.Name == name })]
}

// definedCycle returns the best of all import cycles, which it lists by trying every way from every module.
func definedCycle(l []api.Module) []string {
	var best []string
	var follow func(way []string)
	follow = func(way []string) {
		for _, i := range find(l, way[len(way)-1]).Imports {
			switch {
			case i.Module == way[0]:
				if best == nil || len(way) < len(best) || len(way) == len(best) && slices.Compare(way, best) < 0 {
					best = slices.Clone(way)
				}
			case !slices.Contains(way, i.Module):
				follow(append(slices.Clone(way), i.Module))
			}
		}
	}
	for _, m := range l {
		follow([]string{m.Name})
	}
	return best
}

// definedOrder returns the order of a list without a cycle.
func definedOrder(l []api.Module) []string {
	var order []string
	for len(order) < len(l) {
		var next []string
		for _, m := range l {
			possible := !slices.Contains(order, m.Name)
			for _, i := range m.Imports {
				possible = possible && slices.Contains(order, i.Module)
			}
			if possible {
				next = append(next, m.Name)
			}
		}
		order = append(order, slices.Min(next))
	}
	return order
}

// definedLevels returns the levels of a list without a cycle, in whose order they are found.
func definedLevels(l []api.Module, order []string) [][]string {
	level := map[string]int{}
	var lists [][]string
	for _, name := range order {
		for _, i := range find(l, name).Imports {
			level[name] = max(level[name], level[i.Module]+1)
		}
		for len(lists) <= level[name] {
			lists = append(lists, nil)
		}
		lists[level[name]] = append(lists[level[name]], name)
	}
	for _, list := range lists {
		slices.Sort(list)
	}
	return lists
}

// definedNeeds returns the direct imports of a module and their needs.
func definedNeeds(l []api.Module, name string) []string {
	var needs []string
	for _, i := range find(l, name).Imports {
		needs = append(append(needs, i.Module), definedNeeds(l, i.Module)...)
	}
	slices.Sort(needs)
	return slices.Compact(needs)
}

// P10.1 to P10.4: all results are the defined ones, whatever the order of the list.
func TestAgainstDefinition(t *testing.T) {
	r := rand.New(rand.NewSource(1))
	cyclic, acyclic := 0, 0
	for range 4000 {
		l := random(r, 1+r.Intn(6), 3*r.Float64(), r.Intn(2) == 0)
		cycle := definedCycle(l)
		if got := Cycle(l); !slices.Equal(got, cycle) {
			t.Fatalf("%v: the cycle %v, want %v", l, got, cycle)
		}
		if cycle != nil {
			cyclic++
			checkFault(t, l, api.Fault{Code: api.ErrCycle, Name: cycle[0]})
			continue
		}
		acyclic++
		checkAcyclic(t, l)
	}
	if cyclic < 1000 || acyclic < 1000 {
		t.Errorf("%d lists with a cycle, %d without", cyclic, acyclic)
	}
}

func checkFault(t *testing.T, l []api.Module, want api.Fault) {
	t.Helper()
	order, one := Order(l)
	lists, two := Levels(l)
	needs, three := Needs(l, l[0].Name)
	users, four := Users(l, l[0].Name)
	if one != want || two != want || three != want || four != want || order != nil || lists != nil || needs != nil || users != nil {
		t.Fatalf("%v: %v, %v, %v, %v, want %v", l, one, two, three, four, want)
	}
}

func checkAcyclic(t *testing.T, l []api.Module) {
	t.Helper()
	want := definedOrder(l)
	if got, fault := Order(l); !slices.Equal(got, want) || fault != (api.Fault{}) {
		t.Fatalf("%v: the order %v with %v, want %v", l, got, fault, want)
	}
	if got, fault := Levels(l); !reflect.DeepEqual(got, definedLevels(l, want)) || fault != (api.Fault{}) {
		t.Fatalf("%v: the levels %v with %v, want %v", l, got, fault, definedLevels(l, want))
	}
	users := map[string][]string{}
	for _, name := range want {
		needs := definedNeeds(l, name)
		if got, fault := Needs(l, name); !slices.Equal(got, needs) || fault != (api.Fault{}) {
			t.Fatalf("%v: %s needs %v with %v, want %v", l, name, got, fault, needs)
		}
		for _, need := range needs {
			users[need] = append(users[need], name)
		}
	}
	for _, name := range want {
		slices.Sort(users[name])
		if got, fault := Users(l, name); !slices.Equal(got, users[name]) || fault != (api.Fault{}) {
			t.Fatalf("%v: %s is used by %v with %v, want %v", l, name, got, fault, users[name])
		}
	}
}

// P10.1 to P10.4 for the longest lists.
func TestLongLists(t *testing.T) {
	r := rand.New(rand.NewSource(2))
	for range 200 {
		l := random(r, api.MaxModules, 4*r.Float64(), true)
		want := definedOrder(l)
		if got, fault := Order(l); !slices.Equal(got, want) || fault != (api.Fault{}) {
			t.Fatalf("%v: the order %v with %v, want %v", l, got, fault, want)
		}
		if got, fault := Levels(l); !reflect.DeepEqual(got, definedLevels(l, want)) || fault != (api.Fault{}) {
			t.Fatalf("%v: the levels %v with %v", l, got, fault)
		}
	}
	ring := make([]api.Module, api.MaxModules)
	all := make([]string, api.MaxModules)
	for i := range ring {
		all[i] = string(rune('A' + i))
		ring[i] = api.Module{Name: all[i], Imports: []api.Import{{Module: string(rune('A' + (i+1)%api.MaxModules))}}}
	}
	slices.Reverse(ring)
	if got := Cycle(ring); !slices.Equal(got, all) {
		t.Errorf("the cycle %v", got)
	}
	for i := range ring {
		ring[i].Imports = nil
		for _, name := range all {
			if name != ring[i].Name {
				ring[i].Imports = append(ring[i].Imports, api.Import{Module: name})
			}
		}
	}
	if got := Cycle(ring); !slices.Equal(got, []string{"A", "B"}) {
		t.Errorf("the cycle %v", got)
	}
}
