package conds

import (
	"cmp"
	"slices"

	"hoarding/api"
)

// Circle answers the names of a circle of conditions: from the first one that is in any, on the shortest way back to it; none, if there is no circle.
func Circle(l []api.Cond) []string {
	next := leads(l)
	back := turned(next)
	first, ok := inCircle(next, back)
	if !ok {
		return nil
	}
	far := steps(back, first)
	nearer := func(i, j int) int { return cmp.Compare(far[i], far[j]) }
	var names []string
	for at := first; len(names) == 0 || at != first; {
		names = append(names, l[at].Name)
		// Of those that are as near MinFunc answers the first.
		at = slices.MinFunc(next[at], nearer)
	}
	return names
}

// leads answers of each condition the places of those that it names, in the order of their names.
func leads(l []api.Cond) [][]int {
	at := places(each(l, ownName)...)
	return each(l, func(c api.Cond) []int {
		var next []int
		for _, name := range Names(c) {
			if i, ok := at[name]; ok {
				next = append(next, i)
			}
		}
		return next
	})
}

// turned answers of each place those that lead to it.
func turned(next [][]int) [][]int {
	back := make([][]int, len(next))
	for from, row := range next {
		for _, to := range row {
			back[to] = append(back[to], from)
		}
	}
	return back
}

// inCircle answers the first place that is in a circle; false, if none is. It looks at each way a few times only, however many conditions there are.
func inCircle(next, back [][]int) (int, bool) {
	ring := rings(next, back)
	for at, row := range next {
		// A way that stays in the ring can be gone back.
		if slices.ContainsFunc(row, func(to int) bool { return ring[to] == ring[at] }) {
			return at, true
		}
	}
	return 0, false
}

// rings answers of each place a place that tells its ring: two are in one ring, if each leads to the other.
func rings(next, back [][]int) []int {
	ring := slices.Repeat([]int{-1}, len(next))
	// Of those in no ring yet, who leads to the one that was left last can be reached from it, too: else it would have been left later.
	for _, last := range slices.Backward(leaving(next)) {
		for rest := []int{last}; len(rest) > 0; {
			at := rest[len(rest)-1]
			rest = rest[:len(rest)-1]
			if ring[at] < 0 {
				ring[at] = last
				rest = append(rest, back[at]...)
			}
		}
	}
	return ring
}

// leaving answers all places in the order in which a walk leaves them that goes on as far as it can before it turns back.
func leaving(next [][]int) []int {
	var out []int
	seen := make([]bool, len(next))
	for start := range next {
		// A place turned about (^) stands for leaving it.
		for rest := []int{start}; len(rest) > 0; {
			at := rest[len(rest)-1]
			rest = rest[:len(rest)-1]
			switch {
			case at < 0:
				out = append(out, ^at)
			case !seen[at]:
				seen[at] = true
				rest = append(append(rest, ^at), next[at]...)
			}
		}
	}
	return out
}

// steps answers of each place how many steps lead from it to that one; more than there are places, if none do.
func steps(back [][]int, to int) []int {
	far := slices.Repeat([]int{len(back) + 1}, len(back))
	far[to] = 0
	for row := []int{to}; len(row) > 0; row = row[1:] {
		for _, from := range back[row[0]] {
			if far[from] > len(back) {
				far[from] = far[row[0]] + 1
				row = append(row, from)
			}
		}
	}
	return far
}
