package kinds

import "lazyc/api"

// measure has the size and the depth of a kind. They are exact as long as they do not exceed the limits.
type measure struct {
	size, depth int
	open        bool // the measuring is not finished
}

func (m measure) isValid() bool {
	return !m.open && m.size <= api.MaxSize && m.depth <= api.MaxDepth
}

// measures has the measures of places, so that a part that occurs several times is measured once.
type measures map[*place]measure

// areValid reports whether kinds are finite and keep to the limits.
func areValid(list []*place) bool {
	found := measures{}
	for _, p := range list {
		if !found.of(p).isValid() {
			return false
		}
	}
	return true
}

// of returns the measure of a kind; that of a kind that contains itself is open.
func (m measures) of(p *place) measure {
	p = p.last()
	if found, ok := m[p]; ok {
		return found
	}
	found := measure{size: 1, depth: 1}
	if k, ok := p.kind.(arrow); ok {
		m[p] = measure{open: true}
		from, to := m.of(k.from), m.of(k.to)
		found = measure{
			size:  min(from.size+to.size, api.MaxSize+1),
			depth: max(from.depth+1, to.depth),
			open:  from.open || to.open,
		}
	}
	m[p] = found
	return found
}
