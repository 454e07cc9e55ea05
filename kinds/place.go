package kinds

import "lazyc/api"

// kind is a kind under inference: star, arrow or unknown.
type kind interface {
	isKind()
}

// star is the kind *.
type star struct{}

// arrow is the kind from -> to.
type arrow struct {
	from, to *place
}

// unknown is a kind of which nothing is known yet.
type unknown struct{}

func (star) isKind()    {}
func (arrow) isKind()   {}
func (unknown) isKind() {}

// place holds a kind. Places whose kinds must be equal are joined: all but one of them lead to that one, which holds the kind of all.
// The parts of kinds are shared, so that a kind may be much larger than the memory that it takes; only measured ones are written out.
type place struct {
	joined *place
	kind   kind
}

func newPlace() *place { return &place{kind: unknown{}} }

func starPlace() *place { return &place{kind: star{}} }

// function returns a place for the kind of functions from some kinds to another one.
func function(params []*place, result *place) *place {
	for i := len(params) - 1; i >= 0; i-- {
		result = &place{kind: arrow{params[i], result}}
	}
	return result
}

// placeOf returns a place for a kind.
func placeOf(k api.Kind) *place {
	var params []*place
	for _, arg := range k.Args {
		params = append(params, placeOf(arg))
	}
	return function(params, starPlace())
}

// last returns the place that holds the kind of p.
func (p *place) last() *place {
	for p.joined != nil {
		if p.joined.joined != nil {
			p.joined = p.joined.joined // the next search has a shorter way
		}
		p = p.joined
	}
	return p
}

// equate makes two kinds equal, as far as they are determined, and reports whether that is possible. A kind that contains itself is possible here.
func equate(a, b *place) bool {
	for {
		a, b = a.last(), b.last()
		if a == b {
			return true
		}
		switch of := a.kind.(type) {
		case unknown:
			a.joined = b
			return true
		case star:
			if _, ok := b.kind.(arrow); ok {
				return false
			}
			b.joined = a
			return true
		case arrow:
			switch with := b.kind.(type) {
			case star:
				return false
			case unknown:
				b.joined = a
				return true
			case arrow:
				b.joined = a
				if !equate(of.from, with.from) {
					return false
				}
				a, b = of.to, with.to
			}
		}
	}
}

// applied returns the kind of a function's result, if an argument has the kind that the function requires.
func applied(function, argument *place) (*place, bool) {
	function = function.last()
	switch of := function.kind.(type) {
	case arrow:
		return of.to, equate(of.from, argument)
	case unknown:
		result := newPlace()
		function.kind = arrow{argument, result}
		return result, true
	}
	return nil, false
}

// settled returns the kind of a place. What is not determined becomes *.
func settled(p *place) api.Kind {
	var k api.Kind
	for {
		p = p.last()
		switch of := p.kind.(type) {
		case arrow:
			k.Args = append(k.Args, settled(of.from))
			p = of.to
		case unknown:
			p.kind = star{}
			return k
		case star:
			return k
		}
	}
}
