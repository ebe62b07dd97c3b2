package cloud

import (
	"slices"

	"hoarding/api"
	"hoarding/schema"
	"hoarding/store"
)

// wrong answers why a call may not be submitted; OK, if it may.
func wrong(x api.Call) api.Errno {
	switch {
	case mayNot(x):
		return api.ErrArg
	case x.Kind == api.CallDelete:
		// What a delete says of the type counts for nothing: the thing goes by its physical id.
		return api.OK
	}
	return schema.Check(x.Type, x.Props)
}

// mayNot tells whether a call may not be submitted, whatever the types have.
func mayNot(x api.Call) bool {
	is := func(kinds ...int8) bool { return slices.Contains(kinds, x.Kind) }
	switch {
	case x.Token < 1 || !is(api.CallCreate, api.CallUpdate, api.CallDelete):
		return true
	case is(api.CallCreate) != (x.Phys == ""):
		return true
	case is(api.CallDelete) && len(x.Props) > 0 || is(api.CallUpdate) && x.Type == "":
		return true
	}
	return slices.ContainsFunc(x.Props, func(g api.Given) bool { return g.Unknown })
}

// take has the effect of a call happen, and answers the physical id of what it made; false, if the store refuses it: then it has none.
func (c *Cloud) take(x api.Call) (string, bool) {
	has, phys, e := effect(c.has, x)
	if e != api.OK {
		return "", false
	}
	c.has = has
	return phys, true
}

// effect answers s as a call leaves it, and the physical id of what it made.
func effect(s store.Store, x api.Call) (has store.Store, phys string, e api.Errno) {
	switch x.Kind {
	case api.CallCreate:
		return store.Create(s, x.Type, x.Props)
	case api.CallUpdate:
		has, e = store.Update(s, x.Phys, x.Props)
	default:
		has, e = store.Delete(s, x.Phys)
	}
	return has, "", e
}
