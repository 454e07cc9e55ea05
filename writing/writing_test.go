package writing

import "testing"

func TestWriter(t *testing.T) {
	var w Writer
	w.Text("a", "", "b")
	w.InParens(func() { w.Separated(3, ", ", func(i int) { w.Text(string(rune('x' + i))) }) })
	w.Separated(0, ";", func(int) { t.Error("an item") })
	w.Separated(1, ";", func(int) { w.Text("c") })
	if got := w.String(); got != "ab(x, y, z)c" {
		t.Error(got)
	}
}
