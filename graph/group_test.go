package graph

import (
	"fmt"
	"math"
	"math/rand"
	"reflect"
	"slices"
	"strings"
	"testing"

	"lazyc/api"
)

// P9.5: the items in groups.
func TestGroup(t *testing.T) {
	for _, c := range []struct{ items, uses, want string }{
		{"", "", ""},
		{"a", "", "a"},
		{"a b a", "a:b", "b | a"},
		{"a a a", "a:a", "a"},
		{"a b c", "a:b b:a c:a", "a b | c"},
		{"c b a", "c:a b:c a:", "a | c | b"},
		{"b a", "b:a a:b", "b a"},
		{"a b c", "a:x b:yac c:zzx", "a | c | b"},
		{"a b", "x:ab", "a | b"},
		{"d c b a d c", "d:c c:d b:ad a:b", "d c | b a"},
	} {
		var asked []string
		uses := func(item string) []string {
			asked = append(asked, item)
			for _, part := range strings.Fields(c.uses) {
				if name, used, _ := strings.Cut(part, ":"); name == item {
					return strings.Split(used, "")
				}
			}
			return nil
		}
		items := strings.Fields(c.items)
		if got := lists(Group(items, uses)); got != c.want {
			t.Errorf("%s with %s: %s, want %s", c.items, c.uses, got, c.want)
		}
		var different []string
		for _, item := range items {
			if !slices.Contains(different, item) {
				different = append(different, item)
			}
		}
		if !slices.Equal(asked, different) || strings.Join(items, " ") != c.items {
			t.Errorf("%s: uses was called for %v", c.items, asked)
		}
	}
	if got := lists(Group(strings.Fields("b a b c"), nil)); got != "b | a | c" {
		t.Errorf("without uses: %s", got)
	}
}

// P9.5: groups are the components of the graph, for keys of a struct type.
func TestGroupAgainstComponents(t *testing.T) {
	type key struct {
		name string
		n    int
	}
	r := rand.New(rand.NewSource(3))
	for range 500 {
		g := random(r, 1+r.Intn(9), 2*r.Float64(), r.Intn(2) == 0)
		keys := make([]key, len(g.Edges))
		for node := range keys {
			keys[node] = key{"key", -node}
		}
		var want [][]key
		for _, component := range Components(g) {
			var group []key
			for _, node := range component {
				group = append(group, keys[node])
			}
			want = append(want, group)
		}
		buffer := []key{}
		uses := func(k key) []key {
			buffer = append(buffer[:0], key{"other", 0}, key{"key", 1})
			for _, next := range g.Edges[-k.n] {
				buffer = append(buffer, keys[next])
			}
			return buffer
		}
		items := slices.Clone(keys)
		for range r.Intn(9) {
			items = append(items, keys[r.Intn(len(keys))])
		}
		if got := Group(items, uses); !reflect.DeepEqual(got, want) {
			t.Fatalf("%v: %v, want %v", g, got, want)
		}
	}
}

// P9.5: a key that differs from itself is an item whenever it occurs, and no result of uses is it.
func TestGroupNotANumber(t *testing.T) {
	items := []float64{math.NaN(), 1, math.NaN(), 1, math.Copysign(0, -1), 0}
	calls := 0
	got := Group(items, func(float64) []float64 {
		calls++
		return []float64{math.NaN(), 0}
	})
	if lists(got) != "-0 | NaN | 1 | NaN" || calls != 4 {
		t.Errorf("%s after %d calls", lists(got), calls)
	}
}

// P9.5: a result of uses that cannot be compared is no item; an item must be comparable.
func TestGroupAnything(t *testing.T) {
	uses := func(item any) []any { return []any{[]int{1}, map[int]int{}, "b", nil} }
	got := Group([]any{"a", nil, 1, "b", "a"}, uses)
	if want := [][]any{{nil, "b"}, {"a"}, {1}}; !reflect.DeepEqual(got, want) {
		t.Errorf("%v", got)
	}
	if got := Group([]any{"a", []int{1}}, uses); got != nil {
		t.Errorf("%v", got)
	}
	if got := Group([]any{"a", "b"}, func(item any) []any { panic(item) }); got != nil {
		t.Errorf("%v", got)
	}
}

// P9.5: uses may change its surroundings, and call Group.
func TestGroupNested(t *testing.T) {
	items := []int{1, 2, 3}
	got := Group(items, func(item int) []int {
		items[0], items[1], items[2] = 7, 8, 9
		inner := Group([]int{3, 2}, func(int) []int { return []int{item} })
		return inner[0]
	})
	if lists(got) != "2 | 3 | 1" {
		t.Errorf("%v", got)
	}
	if fmt.Sprint(items) != "[7 8 9]" {
		t.Errorf("the items became %v", items)
	}
}

func ExampleGroup() {
	fmt.Println(Group([]string{"a", "b", "a"}, func(item string) []string {
		if item == "a" {
			return []string{"b"}
		}
		return nil
	}))
	fmt.Println(Components(api.Graph{Edges: [][]int{{1}, {0}, {0}}}))
	// Output:
	// [[b] [a]]
	// [[0 1] [2]]
}
