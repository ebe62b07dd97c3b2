package cloud

import (
	"slices"

	"hoarding/api"
)

func copiedCall(x api.Call) api.Call {
	x.Props = copiedProps(x.Props)
	return x
}

// copiedThings answers l in new memory.
func copiedThings(l []api.Thing) []api.Thing {
	l = slices.Clone(l)
	for i, x := range l {
		l[i].Props = copiedProps(x.Props)
	}
	return l
}

// copiedProps answers l in new memory. The properties that come here were found to be such as may be: their values are lists of texts at most, so that copying them ends.
func copiedProps(l []api.Given) []api.Given {
	l = slices.Clone(l)
	for i, g := range l {
		l[i].V = copiedValue(g.V)
	}
	return l
}

func copiedValue(v api.Value) api.Value {
	v.List, v.Keys = slices.Clone(v.List), slices.Clone(v.Keys)
	for i, part := range v.List {
		v.List[i] = copiedValue(part)
	}
	return v
}
