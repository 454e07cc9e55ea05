package freevars

import (
	"slices"
	"testing"
)

// A name is found where no scope around binds it, once, in the order of the occurrences.
func TestFinder(t *testing.T) {
	f := New()
	f.InScope([]string{"x", "y", "x"}, func() {
		f.Occurrence("x")
		f.Occurrence("z")
		f.InScope([]string{"z", "y"}, func() { f.Occurrence("y") })
		f.Occurrence("y")
		f.Occurrence("z")
	})
	if f.Has("x") || f.Has("y") || !f.Has("z") {
		t.Error("found", f.Names())
	}
	f.Occurrence("y")
	f.Occurrence("x")
	f.Occurrence("y")
	list := f.Names()
	if want := []string{"z", "y", "x"}; !slices.Equal(list, want) {
		t.Errorf("found %v, want %v", list, want)
	}
	list[0] = "a"
	if f.Names()[0] != "z" {
		t.Error("the list is shared")
	}
}
