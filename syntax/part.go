package syntax

import (
	"slices"

	"hoarding/api"
	"hoarding/number"
	"hoarding/runes"
)

// part is a value within what is read, which is sorted and may be.
type part struct {
	v    api.Value
	at   string // where it stands
	nest int    // how many templates are around its own
}

// fault is what ends a walk.
type fault struct {
	at string
	e  api.Errno
}

// want ends the walk here, unless it is ok.
func (p part) want(ok bool, e api.Errno) {
	if !ok {
		panic(fault{p.at, e})
	}
}

// inner answers the part v of p, which stands there under the key or, of a list, at the place.
func (p part) inner(step string, v api.Value) part {
	if p.at != "" {
		step = p.at + "/" + step
	}
	return part{v, step, p.nest}
}

// under answers what stands under the key; false, if p has it not.
func (p part) under(key string) (part, bool) {
	i := slices.Index(p.v.Keys, key)
	if i < 0 {
		return part{}, false
	}
	return p.inner(key, p.v.List[i]), true
}

// row answers the parts of the list p, which must be from least to most.
func (p part) row(least, most int, e api.Errno) []part {
	n := len(p.v.List)
	p.want(p.v.Kind == api.List && n >= least && n <= most, e)
	parts := make([]part, n)
	for i, v := range p.v.List {
		place, _ := number.Text(i)
		parts[i] = p.inner(place, v)
	}
	return parts
}

// text answers the text p, which must be such as may says.
func (p part) text(may func(string) bool, e api.Errno) string {
	p.want(p.v.Kind == api.Text && may(p.v.Text), e)
	return p.v.Text
}

// choice tells whether p is the text yes; else it must be the text no.
func (p part) choice(no, yes string) bool {
	return yes == p.text(func(s string) bool { return s == no || s == yes }, api.ErrSection)
}

// fields has what stands under the object p's keys read, in the order told; the first of these, as many as must says, must be given.
func (p part) fields(must int, order []string, readers map[string]func(part)) {
	known(p, readers)
	for i, key := range order {
		x, given := p.under(key)
		p.want(given || i >= must, api.ErrSection)
		if given {
			readers[key](x)
		}
	}
}

// known ends the walk, unless p is an object all of whose keys have readers.
func known[F any](p part, readers map[string]F) {
	p.want(p.v.Kind == api.Object, api.ErrSection)
	for i, key := range p.v.Keys {
		_, ok := readers[key]
		p.inner(key, p.v.List[i]).want(ok, api.ErrSection)
	}
}

// only has what stands under the object p's only key read.
func only[T any](p part, readers map[string]func(part) T, e api.Errno) T {
	p.want(p.v.Kind == api.Object && len(p.v.Keys) == 1, e)
	key := p.v.Keys[0]
	x := p.inner(key, p.v.List[0])
	reader, ok := readers[key]
	x.want(ok, e)
	return reader(x)
}

// named has what stands under the object p's names read, by names.
func named[T any](p part, read func(p part, name string) T) []T {
	p.want(p.v.Kind == api.Object, api.ErrSection)
	var l []T
	for i, name := range p.v.Keys {
		x := p.inner(name, p.v.List[i])
		x.want(runes.Name(name), api.ErrSection)
		l = append(l, read(x, name))
	}
	return l
}

// each has the parts read, in order.
func each[T any](parts []part, read func(part) T) []T {
	var l []T
	for _, p := range parts {
		l = append(l, read(p))
	}
	return l
}
