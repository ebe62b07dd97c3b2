package tree

import (
	"cmp"
	"slices"
	"strings"

	"hoarding/api"
)

// Equal tells whether a and b have the same kind and content; false, if one may not be.
func Equal(a, b api.Value) bool {
	c, ok := compare(a, b)
	return ok && c == 0
}

// Less tells whether a stands ahead of b in the order of values; false, if one may not be.
func Less(a, b api.Value) bool {
	c, ok := compare(a, b)
	return ok && c < 0
}

// Sorted answers v with its objects' keys rising, at every depth; v as it is, if it may not be.
func Sorted(v api.Value) api.Value {
	if wrong(v) != api.OK {
		return copied(v)
	}
	return sorted(v)
}

// compare answers a number below 0, 0 or above it, as a stands ahead of b, beside it or behind it; false, if one of them may not be.
func compare(a, b api.Value) (c int, ok bool) {
	if wrong(a) != api.OK || wrong(b) != api.OK {
		return 0, false
	}
	return compareSorted(sorted(a), sorted(b)), true
}

func compareSorted(a, b api.Value) int {
	if a.Kind != b.Kind {
		return cmp.Compare(a.Kind, b.Kind)
	}
	switch a.Kind {
	case api.Bool:
		return compareBools(a.Bool, b.Bool)
	case api.Number:
		return cmp.Compare(a.Num, b.Num)
	case api.Text:
		return strings.Compare(a.Text, b.Text)
	case api.Object:
		// All keys go ahead of all values: else the order would not be one.
		if c := slices.Compare(a.Keys, b.Keys); c != 0 {
			return c
		}
	}
	return slices.CompareFunc(a.List, b.List, compareSorted)
}

func compareBools(a, b bool) int {
	switch {
	case a == b:
		return 0
	case b:
		return -1
	}
	return 1
}

// sorted answers the sorted value of v, which may be.
func sorted(v api.Value) api.Value {
	list, keys := slices.Clone(v.List), slices.Clone(v.Keys)
	for to, from := range order(v) {
		list[to] = sorted(v.List[from])
		if v.Kind == api.Object {
			keys[to] = v.Keys[from]
		}
	}
	v.List, v.Keys = list, keys
	return v
}

// order answers the places of v's parts: as they stand, but those of an object by their keys.
func order(v api.Value) []int {
	places := make([]int, len(v.List))
	for i := range places {
		places[i] = i
	}
	if v.Kind == api.Object {
		slices.SortFunc(places, func(i, j int) int { return strings.Compare(v.Keys[i], v.Keys[j]) })
	}
	return places
}
