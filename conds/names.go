package conds

import (
	"iter"

	"hoarding/api"
)

// Names answers the conditions that c names, in order, each once.
func Names(c api.Cond) []string {
	var names []string
	for part := range all(c) {
		if part.Kind == api.CoName {
			names = append(names, part.Name)
		}
	}
	return once(names...)
}

// all goes over c and its parts, the whole ahead of its parts, parts in order. It keeps a list of what is yet to come and does not call itself, and it goes into no list twice: so it ends on any depth, though a list held itself.
func all(c api.Cond) iter.Seq[api.Cond] {
	return func(yield func(api.Cond) bool) {
		within := map[*api.Cond]int{} // how long the lists were, by their first parts
		for rest := [][]api.Cond{{c}}; len(rest) > 0; {
			row := rest[len(rest)-1]
			if !yield(row[0]) {
				return
			}
			rest = rest[:len(rest)-1]
			if len(row) > 1 {
				rest = append(rest, row[1:])
			}
			if l := row[0].L; len(l) > 0 && within[&l[0]] < len(l) {
				within[&l[0]] = len(l)
				rest = append(rest, l)
			}
		}
	}
}

// once puts the names together, in order, each once.
func once(names ...string) []string {
	var out []string
	first := places(names...)
	for i, name := range names {
		if first[name] == i {
			out = append(out, name)
		}
	}
	return out
}

// places answers where each name stands; of a name twice the first place counts.
func places(names ...string) map[string]int {
	at := map[string]int{}
	for i, name := range names {
		if _, ok := at[name]; !ok {
			at[name] = i
		}
	}
	return at
}
