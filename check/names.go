package check

import (
	"maps"
	"slices"
)

// names are variables, each once. What is made of two sets takes no longer than the smaller one is, so that a name which is handed up through a tree changes its set but few times, however deep that is.
type names map[string]struct{}

// with is a set and one name more; the empty one is none. The set itself is used up.
func (s names) with(name string) names {
	if name == "" {
		return s
	}
	if s == nil {
		s = names{}
	}
	s[name] = struct{}{}
	return s
}

// rising are the names in order.
func (s names) rising() []string { return slices.Sorted(maps.Keys(s)) }

// sized are two sets, the smaller one ahead.
func sized(a, b names) (small, big names) {
	if len(a) > len(b) {
		return b, a
	}
	return a, b
}

// either are the names of one set or the other, which are both used up.
func either(a, b names) names {
	small, big := sized(a, b)
	for name := range small {
		big[name] = struct{}{}
	}
	return big
}

// common are the names of both sets, in a new one: a set out of which names are taken would keep the room for them, and be gone through as if they still stood there.
func common(a, b names) names {
	small, big := sized(a, b)
	var both names
	for name := range small {
		if _, ok := big[name]; ok {
			both = both.with(name)
		}
	}
	return both
}

// meet tells whether two sets have a name in common.
func meet(a, b names) bool {
	small, big := sized(a, b)
	for name := range small {
		if _, ok := big[name]; ok {
			return true
		}
	}
	return false
}
