package oper

import (
	"cmp"
	"slices"

	"eyrie/api"
)

// mayLead tells whether it may be that one of each list can be taken, behind so many bounds. It is asked ahead of going through all ways to take them, as there may be very many that lead nowhere.
func mayLead(left [][]*stored, taken int, inTurn bool) bool {
	if slices.ContainsFunc(left, isEmpty) || taken+fewest(left) > api.MaxTerms {
		return false
	}
	return (!inTurn || canStandInTurn(left)) && canOwnEvents(left)
}

func isEmpty(l []*stored) bool { return len(l) == 0 }

// fewest is how many bounds one of each list has at the least, where none is empty.
func fewest(left [][]*stored) int {
	sum := 0
	for _, l := range left {
		least := slices.MinFunc(l, func(a, b *stored) int { return cmp.Compare(len(a.p.Bounds), len(b.p.Bounds)) })
		sum += len(least.p.Bounds)
	}
	return sum
}

// canStandInTurn tells whether there is one of each list that ends below the begin of the next list's one: the one that ends first leaves the most to go on with.
func canStandInTurn(left [][]*stored) bool {
	end := int64(-1)
	for _, l := range left {
		first := int64(api.Forever)
		for _, s := range l {
			if end < s.begin {
				first = min(first, s.end)
			}
		}
		if first == api.Forever {
			return false
		}
		end = first
	}
	return true
}

// owners are lists, each with an event of its own among those of what may be taken of it.
type owners struct {
	left [][]*stored
	of   map[api.ID]int // the list that has an event
}

// canOwnEvents tells whether each list can have an event of its own.
func canOwnEvents(left [][]*stored) bool {
	o := owners{left, map[api.ID]int{}}
	for i := range left {
		if !o.find(i, map[api.ID]struct{}{}) {
			return false
		}
	}
	return true
}

// find finds an event for a list: one without an owner, or one whose owner can have another one. Those that were asked for are not asked for again.
func (o owners) find(list int, asked map[api.ID]struct{}) bool {
	for _, s := range o.left[list] {
		if len(s.p.Bounds) == 0 { // it needs none
			return true
		}
		for _, b := range s.p.Bounds {
			if o.take(list, b.Event.ID, asked) {
				return true
			}
		}
	}
	return false
}

func (o owners) take(list int, id api.ID, asked map[api.ID]struct{}) bool {
	if _, ok := asked[id]; ok {
		return false
	}
	asked[id] = struct{}{}
	if owner, ok := o.of[id]; ok && !o.find(owner, asked) {
		return false
	}
	o.of[id] = list
	return true
}
