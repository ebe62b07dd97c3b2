// Package copies puts values into new memory, for all layers that hand them on.
package copies

import (
	"slices"

	"hoarding/api"
)

// most is how many parts of a value are copied, far more than a value has that may be. What is left then is shared: a list can be made to hold itself, and then there is no end.
const most = 1 << 20

// Givens answers l in new memory.
func Givens(l []api.Given) []api.Given {
	l = slices.Clone(l)
	for i, g := range l {
		l[i].V = Value(g.V)
	}
	return l
}

// Value answers v in new memory. It keeps a list of what is still to be copied and does not call itself, so that it ends on any depth.
func Value(v api.Value) api.Value {
	whole := []api.Value{v}
	left := [][]api.Value{whole}
	for n := 0; len(left) > 0; {
		row := left[len(left)-1]
		left = left[:len(left)-1]
		for i, part := range row {
			if n > most {
				return whole[0]
			}
			n += 1 + len(part.List) + len(part.Keys)
			row[i].List, row[i].Keys = slices.Clone(part.List), slices.Clone(part.Keys)
			if len(part.List) > 0 {
				left = append(left, row[i].List)
			}
		}
	}
	return whole[0]
}
