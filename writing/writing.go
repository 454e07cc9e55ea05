// Package writing puts texts together. It belongs to no layer.
package writing

import "strings"

// Writer collects a text.
type Writer struct {
	out strings.Builder
}

// Text writes strings.
func (w *Writer) Text(parts ...string) {
	for _, part := range parts {
		w.out.WriteString(part)
	}
}

// InParens writes what write writes, in parentheses.
func (w *Writer) InParens(write func()) {
	w.Text("(")
	write()
	w.Text(")")
}

// Separated writes n items with a separator in between.
func (w *Writer) Separated(n int, separator string, item func(i int)) {
	for i := range n {
		if i > 0 {
			w.Text(separator)
		}
		item(i)
	}
}

// String returns the text that was written.
func (w *Writer) String() string { return w.out.String() }
