package store

import (
	"hoarding/api"
	"hoarding/copies"
	"hoarding/schema"
)

// Create answers s with a thing more, and the thing's physical id.
func Create(s Store, kind string, props []api.Given) (Store, string, api.Errno) {
	if e := Check(s); e != api.OK {
		return Store{}, "", e
	}
	if e := wrong(kind, props); e != api.OK {
		return Store{}, "", e
	}
	// Of a store that may be the next number has no id only where it is one too great.
	phys, e := Phys(s.Made + 1)
	if e != api.OK {
		return Store{}, "", api.ErrLong
	}
	l := append(s.L[:len(s.L):len(s.L)], api.Thing{Phys: phys, Type: kind, Props: props})
	return Store{L: copiedThings(l), Made: s.Made + 1}, phys, api.OK
}

// Update answers s with a thing's properties changed in place: they are just props then.
func Update(s Store, phys string, props []api.Given) (Store, api.Errno) {
	at, e := named(s, phys)
	if e != api.OK {
		return Store{}, e
	}
	was := s.L[at]
	if e := wrong(was.Type, props); e != api.OK {
		return Store{}, e
	}
	if change, e := schema.Differ(was.Type, was.Props, props); e != api.OK || change == api.ChReplace {
		return Store{}, api.ErrProp
	}
	l := copiedThings(s.L)
	l[at].Props = copies.Givens(props)
	return Store{L: l, Made: s.Made}, api.OK
}

// Delete answers s without a thing.
func Delete(s Store, phys string) (Store, api.Errno) {
	at, e := named(s, phys)
	if e != api.OK {
		return Store{}, e
	}
	l := append(s.L[:at:at], s.L[at+1:]...)
	return Store{L: copiedThings(l), Made: s.Made}, api.OK
}

// named answers where in s the thing with a physical id stands; ErrArg, unless s may be; ErrNone, if it has none.
func named(s Store, phys string) (int, api.Errno) {
	if e := Check(s); e != api.OK {
		return 0, e
	}
	at, ok := place(s, phys)
	if !ok {
		return 0, api.ErrNone
	}
	return at, api.OK
}
