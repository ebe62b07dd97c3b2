package params

import (
	"slices"

	"hoarding/api"
	"hoarding/copies"
)

// fault answers what is wrong, and the name whose fault it is, if it is a name's; OK, if nothing is.
type fault func() (name string, e api.Errno)

// Bind answers the parameters' values; or what is wrong, and the name whose fault it is.
func Bind(l []api.Param, given []api.Given) (out []api.Given, name string, e api.Errno) {
	for _, wrong := range faults(l, given) {
		if name, e := wrong(); e != api.OK {
			return nil, name, e
		}
	}
	return each(l, func(p api.Param) api.Given { return value(p, given) }), "", api.OK
}

// faults answers all that can be wrong with parameters and what is given to them, in the order in which it counts.
func faults(l []api.Param, given []api.Given) []fault {
	return []fault{
		func() (string, api.Errno) { return "", Check(l) },
		func() (string, api.Errno) {
			names := each(given, func(g api.Given) string { return g.Name })
			return when(!rise(names), "", api.ErrArg)
		},
		func() (string, api.Errno) {
			names := Names(l)
			g, ok := find(given, func(g api.Given) bool { return !slices.Contains(names, g.Name) })
			return when(ok, g.Name, api.ErrParam)
		},
		func() (string, api.Errno) {
			p, ok := find(l, func(p api.Param) bool { return !May(p, value(p, given)) })
			return when(ok, p.Name, api.ErrParam)
		},
	}
}

// when answers the fault e of a name, if it is so.
func when(so bool, name string, e api.Errno) (string, api.Errno) {
	if !so {
		return "", api.OK
	}
	return name, e
}

// value answers a parameter's value, what is given ahead of its default. Where it has neither that is null, which may be no parameter's.
func value(p api.Param, given []api.Given) api.Given {
	if g, ok := Find(given, p.Name); ok {
		return g
	}
	return api.Given{Name: p.Name, V: copies.Value(p.Default)}
}
