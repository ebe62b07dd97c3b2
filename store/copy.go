package store

import (
	"slices"

	"hoarding/api"
)

// copiedParts is how many parts of a value are copied, far more than a value has that may be. What is left then is shared: a list can be made to hold itself, and then there is no end.
const copiedParts = 1 << 20

// copiedThings answers l in new memory.
func copiedThings(l []api.Thing) []api.Thing {
	l = slices.Clone(l)
	for i, x := range l {
		l[i] = copiedThing(x)
	}
	return l
}

func copiedThing(x api.Thing) api.Thing {
	x.Props = copiedProps(x.Props)
	return x
}

func copiedProps(l []api.Given) []api.Given {
	l = slices.Clone(l)
	for i, g := range l {
		l[i].V = copiedValue(g.V)
	}
	return l
}

// copiedValue answers v in new memory. It keeps a list of what is still to be copied and does not call itself, so that it ends on any depth.
func copiedValue(v api.Value) api.Value {
	whole := []api.Value{v}
	left := [][]api.Value{whole}
	for n := 0; len(left) > 0; {
		row := left[len(left)-1]
		left = left[:len(left)-1]
		for i, part := range row {
			if n > copiedParts {
				return whole[0]
			}
			n += 1 + len(part.List) + len(part.Keys)
			row[i].List, row[i].Keys = slices.Clone(part.List), slices.Clone(part.Keys)
			if len(part.List) > 0 {
				left = append(left, row[i].List)
			}
		}
	}
	return whole[0]
}
