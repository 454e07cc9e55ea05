package names

import "maps"

// Supply generates names that were not used before.
type Supply struct {
	// self is the supply itself, so that a supply that was made or copied by hand is recognized.
	self *Supply
	used map[string]bool
	// tried has, for a base, a number up to which all its names are used, so that they are not tried again.
	tried map[string]int
}

// NewSupply returns a supply that avoids the used names.
func NewSupply(used ...string) *Supply {
	s := &Supply{used: make(map[string]bool, len(used)), tried: map[string]int{}}
	s.self = s
	for _, name := range used {
		s.used[name] = true
	}
	return s
}

// valid reports whether s was returned by NewSupply or Clone.
func (s *Supply) valid() bool { return s != nil && s.self == s }

// Fresh returns a generated name that was not used before.
func (s *Supply) Fresh(base string) string {
	if !s.valid() {
		return ""
	}
	if b, _, ok := Base(base); ok {
		base = b
	} else if !isBase(base) {
		return ""
	}
	for {
		s.tried[base]++
		name := made(base, s.tried[base])
		if s.Take(name) {
			return name
		}
	}
}

// Take marks a name as used, and reports whether it was not used before.
func (s *Supply) Take(name string) bool {
	if !s.valid() || s.used[name] {
		return false
	}
	s.used[name] = true
	return true
}

// Clone returns an independent copy.
func (s *Supply) Clone() *Supply {
	if !s.valid() {
		return nil
	}
	c := &Supply{used: maps.Clone(s.used), tried: maps.Clone(s.tried)}
	c.self = c
	return c
}
