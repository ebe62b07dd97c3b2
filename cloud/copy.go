package cloud

import (
	"slices"

	"hoarding/api"
	"hoarding/copies"
)

func copiedCall(x api.Call) api.Call {
	x.Props = copies.Givens(x.Props)
	return x
}

// copiedThings answers l in new memory.
func copiedThings(l []api.Thing) []api.Thing {
	l = slices.Clone(l)
	for i, x := range l {
		l[i].Props = copies.Givens(x.Props)
	}
	return l
}
