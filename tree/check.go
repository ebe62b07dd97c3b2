package tree

import (
	"slices"

	"hoarding/api"
	"hoarding/number"
	"hoarding/runes"
)

// Check answers what is wrong with v; OK, if nothing is.
func Check(v api.Value) api.Errno {
	if e := wrong(v); e != api.OK {
		return e
	}
	if Count(v) > api.MaxText {
		return api.ErrLong
	}
	return api.OK
}

// wrong answers why v may not be; OK, if it may. How many values there are counts for nothing here: a long value may be.
func wrong(v api.Value) api.Errno {
	if depth(v, api.MaxDeep) > api.MaxDeep {
		return api.ErrDeep
	}
	for part := range all(v) {
		if e := fault(part); e != api.OK {
			return e
		}
	}
	return api.OK
}

// fault answers what is wrong with v itself, whatever its parts are.
func fault(v api.Value) api.Errno {
	switch {
	case !shaped(v):
		return api.ErrArg
	case !number.Fits(v.Num):
		return api.ErrNumber
	case !runes.Valid(v.Text) || slices.ContainsFunc(v.Keys, noText):
		return api.ErrText
	case twice(v.Keys):
		return api.ErrTwice
	}
	return api.OK
}

// shaped tells whether v's kind is one, and the fields are zero that it does not name.
func shaped(v api.Value) bool {
	switch v.Kind {
	case api.Null:
	case api.Bool:
		v.Bool = false
	case api.Number:
		v.Num = 0
	case api.Text:
		v.Text = ""
	case api.List:
		v.List = nil
	case api.Object:
		if len(v.Keys) != len(v.List) {
			return false
		}
		v.List, v.Keys = nil, nil
	default:
		return false
	}
	return !v.Bool && v.Num == 0 && v.Text == "" && len(v.List) == 0 && len(v.Keys) == 0
}

func noText(s string) bool { return !runes.Valid(s) }

// twice tells whether one of the keys stands there twice.
func twice(keys []string) bool {
	places := map[string]int{}
	for i, key := range keys {
		places[key] = i
	}
	return len(places) < len(keys)
}
