package store

import (
	"slices"

	"hoarding/api"
	"hoarding/copies"
)

// copiedThings answers l in new memory.
func copiedThings(l []api.Thing) []api.Thing {
	l = slices.Clone(l)
	for i, x := range l {
		l[i] = copiedThing(x)
	}
	return l
}

func copiedThing(x api.Thing) api.Thing {
	x.Props = copies.Givens(x.Props)
	return x
}
