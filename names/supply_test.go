package names

import (
	"math/rand"
	"strconv"
	"strings"
	"testing"
)

// P1.3: the examples of the chapter, and the smallest number that is free.
func TestFresh(t *testing.T) {
	s := NewSupply("x$1", "y", "z$2", "z$4", "z$0", "z$01")
	for _, step := range [][2]string{
		{"x", "x$2"}, {"x$7", "x$3"}, {"y", "y$1"}, {"x", "x$4"},
		{"z", "z$1"}, {"z", "z$3"}, {"z$2", "z$5"},
		{"M.f", "M.f$1"}, {"M.f$9", "M.f$2"}, {"f", "f$1"}, {"+", "+$1"}, {"M.+", "M.+$1"}, {"X", "X$1"}, {"$$3", "$$1"},
	} {
		if got := s.Fresh(step[0]); got != step[1] {
			t.Errorf("Fresh(%q) = %q, want %q", step[0], got, step[1])
		}
	}
}

// P1.3: a string that is no base gives no name, and nothing is marked.
func TestFreshWithoutBase(t *testing.T) {
	s := NewSupply("x")
	for _, base := range []string{"", "where", "_", "=", "--", "x$1$2", "x$01", "M.where", "M.", "m.x", "M.N.x", "1", "where$1", strings.Repeat("a", 65)} {
		if got := s.Fresh(base); got != "" {
			t.Errorf("Fresh(%q) = %q", base, got)
		}
		if !s.Take(base + "$1") {
			t.Errorf("Fresh(%q) has marked a name", base)
		}
	}
	if !s.Take("") || s.Take("") {
		t.Error("Take of the empty string")
	}
}

// P1.3: exactly the given strings are used, whatever they are.
func TestTake(t *testing.T) {
	given := []string{"x", "", "no name", "x$1", "x"}
	s := NewSupply(given...)
	given[0], given[3] = "p", "p$1"
	for _, name := range []string{"x", "", "no name", "x$1"} {
		if s.Take(name) {
			t.Errorf("Take(%q) of a used name", name)
		}
	}
	for _, name := range []string{"y", "p", "\x00", "x$01", "x$2", "M.x", "where"} {
		if !s.Take(name) {
			t.Errorf("Take(%q) of a free name", name)
		}
		if s.Take(name) {
			t.Errorf("Take(%q) does not mark it", name)
		}
	}
	if got := s.Fresh("x"); got != "x$3" {
		t.Error("Fresh after Take:", got)
	}
	if s.Take("x$3") {
		t.Error("Fresh does not mark its name")
	}
	if !s.Take("x$4") || s.Fresh("x") != "x$5" {
		t.Error("Take between two calls of Fresh")
	}
	empty := NewSupply()
	if empty.Fresh("x") != "x$1" || !empty.Take("x") {
		t.Error("a supply without used names")
	}
}

// P1.3: a copy and its original are independent.
func TestClone(t *testing.T) {
	s := NewSupply("x$1")
	s.Fresh("y")
	c := s.Clone()
	if s.Fresh("x") != "x$2" || s.Fresh("y") != "y$2" || !s.Take("z") {
		t.Error("the original")
	}
	if c.Take("x$1") || c.Take("y$1") {
		t.Error("the copy does not have the used names")
	}
	if c.Fresh("x") != "x$2" || c.Fresh("y") != "y$2" || !c.Take("z") || c.Fresh("y") != "y$3" || !c.Take("w") {
		t.Error("the copy depends on the original")
	}
	if s.Fresh("y") != "y$3" || !s.Take("w") {
		t.Error("the original depends on the copy")
	}
	if d := c.Clone(); d == nil || d.Fresh("y") != "y$4" {
		t.Error("a copy of a copy")
	}
	if d := NewSupply().Clone(); d == nil || d.Fresh("x") != "x$1" {
		t.Error("a copy of an empty supply")
	}
}

// P1.3: supplies that NewSupply and Clone did not return.
func TestInvalidSupplies(t *testing.T) {
	s := NewSupply()
	byHand := *s
	for name, bad := range map[string]*Supply{"nil": nil, "zero": {}, "copied by hand": &byHand} {
		for range 2 {
			if bad.Fresh("x") != "" || bad.Take("x") || bad.Clone() != nil {
				t.Error(name)
			}
		}
	}
	if !s.Take("x") || s.Fresh("x") != "x$1" {
		t.Error("an invalid copy has an effect on its original")
	}
}

// model is a supply that tries all numbers.
type model map[string]bool

func (m model) fresh(base string) string {
	for k := 1; ; k++ {
		if name := base + "$" + strconv.Itoa(k); !m[name] {
			m[name] = true
			return name
		}
	}
}

func (m model) clone() model {
	c := model{}
	for name := range m {
		c[name] = true
	}
	return c
}

// P1.3, P1.4: any sequence of calls.
func TestSequences(t *testing.T) {
	bases := []string{"x", "y'", "+", "$", "M.x", "M.+", "M.$"}
	for seed := range int64(40) {
		random := rand.New(rand.NewSource(seed))
		supplies, models := []*Supply{NewSupply("x$3", "y'")}, []model{{"x$3": true, "y'": true}}
		for range 300 {
			i := random.Intn(len(supplies))
			s, m := supplies[i], models[i]
			base := bases[random.Intn(len(bases))]
			name := base + "$" + strconv.Itoa(random.Intn(30))
			switch kind := random.Intn(20); {
			case kind < 8:
				if got, want := s.Fresh(base), m.fresh(base); got != want {
					t.Fatalf("Fresh(%q) = %q, want %q", base, got, want)
				}
			case kind < 11:
				if got, want := s.Fresh(name), m.fresh(base); got != want {
					t.Fatalf("Fresh(%q) = %q, want %q", name, got, want)
				}
			case kind < 19:
				if got := s.Take(name); got == m[name] {
					t.Fatalf("Take(%q) = %v", name, got)
				}
				m[name] = true
			default:
				supplies, models = append(supplies, s.Clone()), append(models, m.clone())
			}
		}
	}
}

// P1.4: fresh names are distinct, and have the base that was asked for, also if there are many.
func TestManyFreshNames(t *testing.T) {
	s := NewSupply("x$5", "M.x$7")
	seen := map[string]bool{"x$5": true, "M.x$7": true}
	for i := range 30000 {
		base := []string{"x", "M.x"}[i%2]
		name := s.Fresh(base + []string{"", "$2"}[i/2%2])
		if b, _, ok := Base(name); b != base || !ok || seen[name] {
			t.Fatalf("Fresh(%q) = %q", base, name)
		}
		seen[name] = true
	}
}
