package match

import (
	"slices"
	"strings"

	"eyrie/api"
	"eyrie/event"
)

// Merge is two partial matches as one, if they and it may be.
func Merge(a, b api.Partial) (api.Partial, bool) {
	if Check(a) != api.OK || Check(b) != api.OK {
		return api.Partial{}, false
	}
	both := api.Partial{Bounds: slices.Concat(a.Bounds, b.Bounds)}
	slices.SortFunc(both.Bounds, func(x, y api.Bound) int { return strings.Compare(x.Var, y.Var) })
	if Check(both) != api.OK {
		return api.Partial{}, false
	}
	return Clone(both), true
}

// Begin is the least time of a partial match's events.
func Begin(p api.Partial) int64 {
	begin, _ := span(p)
	return begin
}

// End is the greatest time of a partial match's events.
func End(p api.Partial) int64 {
	_, end := span(p)
	return end
}

// Within tells whether a partial match lies within a window.
func Within(p api.Partial, window int64) bool {
	begin, end := span(p)
	// the difference has its place in a uint64 whatever the times are, but not always in an int64
	return window >= 0 && uint64(end)-uint64(begin) <= uint64(window)
}

// span is from when to when the events of a partial match are: from 0 to 0, if it has none.
func span(p api.Partial) (begin, end int64) {
	for i, b := range p.Bounds {
		if i == 0 {
			begin, end = b.Event.Time, b.Event.Time
		}
		begin, end = min(begin, b.Event.Time), max(end, b.Event.Time)
	}
	return begin, end
}

// Get is the event that a variable names.
func Get(p api.Partial, name string) (api.Event, bool) {
	for _, b := range p.Bounds {
		if b.Var == name {
			return event.Clone(b.Event), true
		}
	}
	return api.Event{}, false
}
