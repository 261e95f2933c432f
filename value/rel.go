package value

import "eyrie/api"

// Holds tells whether a relation holds of a and b.
func Holds(rel int, a, b api.Value) bool {
	order, ok := Compare(a, b)
	if !ok {
		// an int is another one than any string, but what is no value is not even that
		return rel == api.RelNe && isKind(a.Kind) && isKind(b.Kind)
	}
	switch rel {
	case api.RelEq:
		return order == 0
	case api.RelNe:
		return order != 0
	case api.RelLt:
		return order < 0
	case api.RelLe:
		return order <= 0
	case api.RelGt:
		return order > 0
	case api.RelGe:
		return order >= 0
	}
	return false
}

// Swap is the relation that holds of b, a where rel holds of a, b; 0 of one that is none.
func Swap(rel int) int {
	switch rel {
	case api.RelEq, api.RelNe:
		return rel
	case api.RelLt:
		return api.RelGt
	case api.RelGt:
		return api.RelLt
	case api.RelLe:
		return api.RelGe
	case api.RelGe:
		return api.RelLe
	}
	return 0
}

// Not is the relation that holds, of values that are compared, just where rel does not; 0 of one that is none.
func Not(rel int) int {
	switch rel {
	case api.RelEq:
		return api.RelNe
	case api.RelNe:
		return api.RelEq
	case api.RelLt:
		return api.RelGe
	case api.RelGe:
		return api.RelLt
	case api.RelLe:
		return api.RelGt
	case api.RelGt:
		return api.RelLe
	}
	return 0
}
