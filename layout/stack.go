package layout

// kind is the form of an element of the stack.
type kind int

const (
	implicit kind = iota // a block of the layout
	explicit             // a block in braces
	parenthesis
	bracket
	pendingCase // a case that waits for of
	pendingIf   // an if that waits for then
	pendingThen // a then that waits for else
	pendingLet  // a let that waits for in
)

func (k kind) isBlock() bool   { return k <= explicit }
func (k kind) isContext() bool { return k <= bracket }
func (k kind) isPending() bool { return k > bracket }

// isWritten reports whether the source must have a bracket that closes such an element.
func (k kind) isWritten() bool { return k.isContext() && k != implicit }

// element is an element of the stack.
type element struct {
	kind   kind
	column int    // of an implicit block
	word   string // the word that opened a block, or ""
	marked bool   // whether an = has occurred in the present item of an implicit block
	// The positions in the stack of the topmost block and of the topmost context up to this element, or -1.
	block, context int
}

// stack has the elements that are open, the last one on top.
type stack struct {
	elements []element
	written  int // the number of elements that are closed by a bracket
}

func (s *stack) push(e element) {
	here := len(s.elements)
	e.block, e.context = s.topBlock(), s.topContext()
	if e.kind.isBlock() {
		e.block = here
	}
	if e.kind.isContext() {
		e.context = here
	}
	if e.kind.isWritten() {
		s.written++
	}
	s.elements = append(s.elements, e)
}

func (s *stack) pop() element {
	last := len(s.elements) - 1
	e := s.elements[last]
	s.elements = s.elements[:last]
	if e.kind.isWritten() {
		s.written--
	}
	return e
}

// topBlock returns the position of the topmost block, or -1.
func (s *stack) topBlock() int {
	if len(s.elements) == 0 {
		return -1
	}
	return s.elements[len(s.elements)-1].block
}

// topContext returns the position of the topmost context, or -1.
func (s *stack) topContext() int {
	if len(s.elements) == 0 {
		return -1
	}
	return s.elements[len(s.elements)-1].context
}

// implicitAt returns the implicit block at a position, or nil if there is none.
func (s *stack) implicitAt(at int) *element {
	if at < 0 || s.elements[at].kind != implicit {
		return nil
	}
	return &s.elements[at]
}

// implicitBlock returns the topmost block if that is implicit, and otherwise nil.
func (s *stack) implicitBlock() *element { return s.implicitAt(s.topBlock()) }

// implicitContext returns the topmost context if that is an implicit block, and otherwise nil.
func (s *stack) implicitContext() *element { return s.implicitAt(s.topContext()) }

// dropPending removes the pending words above the topmost context.
func (s *stack) dropPending() {
	for len(s.elements) > 0 && s.elements[len(s.elements)-1].kind.isPending() {
		s.pop()
	}
}

// find returns the position of the topmost element that is wanted; it is -1 if there is none, or if the source must close another element before it.
func (s *stack) find(wanted func(element) bool) int {
	for at := len(s.elements) - 1; at >= 0; at-- {
		if wanted(s.elements[at]) {
			return at
		}
		if s.elements[at].kind.isWritten() {
			return -1
		}
	}
	return -1
}
