package value

import (
	"slices"
	"strings"

	"eyrie/api"
)

// CheckAttrs tells whether a list of attributes may be: few enough, names and values that may be, names that rise.
func CheckAttrs(l []api.Attr) api.Errno {
	if len(l) > api.MaxAttrs {
		return api.ErrLong
	}
	for i, a := range l {
		if !Name(a.Name) {
			return api.ErrName
		}
		if err := Check(a.Value); err != api.OK {
			return err
		}
		if i > 0 && a.Name <= l[i-1].Name {
			return api.ErrOrder
		}
	}
	return api.OK
}

// Attrs is attributes, sorted by names.
func Attrs(l ...api.Attr) ([]api.Attr, api.Errno) {
	if len(l) > api.MaxAttrs { // whatever their order: a long list is not worth sorting
		return nil, api.ErrLong
	}
	sorted := slices.Clone(l)
	// stable, because what stands first among those of one name says which error is told
	slices.SortStableFunc(sorted, func(a, b api.Attr) int { return strings.Compare(a.Name, b.Name) })
	if err := CheckAttrs(sorted); err != api.OK {
		return nil, err
	}
	return sorted, api.OK
}

// Get is the value of the first of l of that name.
func Get(l []api.Attr, name string) (api.Value, bool) {
	for _, a := range l {
		if a.Name == name {
			return a.Value, true
		}
	}
	return api.Value{}, false
}

// SameAttrs tells whether two lists have the same attributes, one by one.
func SameAttrs(a, b []api.Attr) bool { return slices.Equal(a, b) }
