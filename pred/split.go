package pred

import (
	"slices"

	"eyrie/api"
)

// Names are the variables of a condition's operands, in order.
func Names(c api.Cond) []string {
	var l []string
	for _, o := range [...]api.Operand{c.Left, c.Right} {
		if !constant(o) {
			l = append(l, o.Var)
		}
	}
	slices.Sort(l)
	return slices.Compact(l)
}

// Ready tells whether all variables of a condition are among some.
func Ready(c api.Cond, vars ...string) bool {
	return ready(c, func(name string) bool { return slices.Contains(vars, name) })
}

// ready tells whether all variables of a condition are known.
func ready(c api.Cond, known func(name string) bool) bool {
	return (constant(c.Left) || known(c.Left.Var)) && (constant(c.Right) || known(c.Right.Var))
}

// Split parts conditions: those that are Ready, and the others.
func Split(l []api.Cond, vars ...string) ([]api.Cond, []api.Cond) {
	if len(l) <= api.MaxConds {
		return part(l, func(c api.Cond) bool { return Ready(c, vars...) })
	}
	known := among(vars)
	return part(l, func(c api.Cond) bool { return ready(c, known) })
}

// among tells of names whether they are some of these, without going through all of them each time.
func among(vars []string) func(name string) bool {
	all := map[string]struct{}{}
	for _, name := range vars {
		all[name] = struct{}{}
	}
	return func(name string) bool {
		_, ok := all[name]
		return ok
	}
}

// part parts conditions: those that are first, and the others.
func part(l []api.Cond, first func(api.Cond) bool) (yes, no []api.Cond) {
	for _, c := range l {
		if first(c) {
			yes = append(yes, c)
		} else {
			no = append(no, c)
		}
	}
	return yes, no
}
