package conds_test

import (
	"strconv"
	"strings"
	"testing"

	"hoarding/api"
	"hoarding/conds"
)

// circles wants the conditions' circle to be of those.
func circles(t *testing.T, l row, want ...string) {
	t.Helper()
	if got := conds.Circle(l); !same(got, names(want)) {
		t.Errorf("Circle of %s: %q, not %q", brief(l), got, want)
	}
}

// P15.1: graphs of definitions, A:BC being A, which names B and C; and their circles.
func TestCircle(t *testing.T) {
	for _, c := range [][2]string{
		// No circle.
		{"", ""}, {"A:", ""}, {"A: B: C:", ""}, {"A:B B:", ""}, {"B: A:B", ""}, {"A:BC B:C C:", ""}, {"A:BCDEF B:CDEF C:DEF D:EF E:F F:", ""}, {"F: E:F D:EF C:DEF B:CDEF A:BCDEF", ""}, {"A:BC B:D C:D D:", ""},
		// One that names itself.
		{"A:A", "A"}, {"A: B:B", "B"}, {"A:BA B:", "A"}, {"A:B B:B", "B"}, {"B:B A:B", "B"}, {"A:A B:B", "A"}, {"B:B A:A", "B"},
		// Of two, of three.
		{"A:B B:A", "A B"}, {"B:A A:B", "B A"}, {"A: B:C C:B", "B C"}, {"A:B B:C C:A", "A B C"}, {"C:A A:B B:C", "C A B"}, {"A: B:D C:B D:C", "B D C"}, {"A:B B:C C:D D:E E:F F:A", "A B C D E F"},
		// Two circles, apart and together.
		{"A:B B:A C:D D:C", "A B"}, {"C:D A:B B:A D:C", "C D"}, {"A:BC B:A C:A", "A B"}, {"A:CB B:A C:A", "A C"}, {"A:B B:AC C:D D:C", "A B"}, {"A:C B:A C:D D:C", "C D"}, {"D:C C:D A:A", "D C"},
		// Reached from outside, and left.
		{"A:B B:C C:B", "B C"}, {"A:C B:A C:BD D:", "A C B"}, {"A:B B:C C:DE D:B E:F F:", "B C D"}, {"E: F:E A:FB B:CF C:EB", "B C"},
		// Between two circles is none.
		{"B:C C:D A:AB D:D", "A"}, {"B:C C:D D:D A:AB", "D"}, {"C:D D:E B:BC E:E", "B"},
		// Of several ways back the shortest, of these the first.
		{"A:BC B:C C:A", "A C"}, {"A:BC B:D C:A D:A", "A C"}, {"A:CB B:A C:B", "A B"}, {"A:BCA B:A C:A", "A"}, {"A:BC B:D C:D D:A", "A B D"}, {"A:CB B:D C:D D:A", "A C D"}, {"A:BC B:D C:E D:A E:A", "A B D"}, {"A:CB C:E B:D D:A E:A", "A C E"},
		{"A:B B:CD C:E D:A E:A", "A B D"}, {"A:B B:BA", "A B"}, {"A:B B:CB C:BA", "A B C"}, {"A:BCD B:E C:F D:E E:F F:A", "A C F"}, {"A:B B:DC C:A D:A", "A B D"}, {"A:B B:CD C:A D:A", "A B C"},
		// What leads nowhere, or not back, is no way.
		{"A:ZB B:A", "A B"}, {"A:CB B:A C:", "A B"}, {"A:CB B:A C:C", "A B"}, {"A:CB B:A C:D D:C", "A B"}, {"A:Z B:AZ", ""}, {"A:Z B:ZYB", "B"},
		// CoNames, which name themselves.
		{"A:*", "A"}, {"B: A:*", "A"}, {"A:B B:*", "B"}, {"B:* A:B", "B"}, {"A:* B:*", "A"}, {"A:B B:A C:*", "A B"}, {"C:* A:B B:A", "C"}, {"A:B B: C:B", ""},
		// A name that stands twice: the first counts, and into the second leads nothing.
		{"A: A:A", ""}, {"A: A:*", ""}, {"A:* A:", "A"}, {"A:A A:", "A"}, {"A:B B: B:A", ""}, {"A:B B:A B:", "A B"}, {"A: B:A A:B", ""}, {"A:B A: B:A", "A B"}, {"A: A:B B:B", "B"}, {"B: A:B A:A B:A", ""}, {"A: B:A B:C C:B", ""}, {"A: B:C B:A C:B", "B C"}, {"A:A A:A", "A"},
	} {
		circles(t, graph(c[0]), strings.Fields(c[1])...)
	}
	circles(t, row{})
}

// P15.1: any conditions, whose names are none, and that may not be.
func TestCircleAny(t *testing.T) {
	circles(t, row{is("", not(cond("")))}, "")
	circles(t, row{is("A", not(cond("")))})
	circles(t, row{cond("")}, "")
	circles(t, row{is("", yes()), cond("")})
	circles(t, row{is("9", and(yes(), cond("\xff"))), is("\xff", or(cond("A_"), cond("9")))}, "9", "\xff")
	circles(t, row{is("A", not(yes(), cond("A")))}, "A")
	circles(t, row{is("A", api.Cond{Kind: 9, L: row{cond("B")}}), is("B", deep(9, cond("A")))}, "A", "B")
	circles(t, row{is("A", deep(300000, cond("A")))}, "A")
	circles(t, row{is("E", endless())}, "E")
	circles(t, row{is("A", endless())})
	circles(t, make(row, 1000))
	// What parameters are named is none of it.
	circles(t, row{is("A", equals(ref("A"), ref("B"))), is("B", not(equals(ref("A"), ref("B"))))})
}

// ring answers many definitions, each of which names the next one, the last one that at that place.
func ring(many, back int) (l row) {
	for i := range many {
		to := i + 1
		if to == many {
			to = back
		}
		l = append(l, is("N"+strconv.Itoa(i), not(cond("N"+strconv.Itoa(to)))))
	}
	return l
}

// P15.1: more conditions than a template may have, and far more.
func TestCircleMany(t *testing.T) {
	for _, many := range []int{1, 2, 7, 100, 100000} {
		for _, back := range []int{0, many / 2, many - 1, -1, many} {
			l := ring(many, back)
			var want names
			for i := max(back, 0); i < many && back >= 0 && back < many; i++ {
				want = append(want, l[i].Name)
			}
			circles(t, l, want...)
			// The last one names X, too, which names it: a circle behind all others.
			last := &l[many-1]
			*last = is(last.Name, or(cond("X"), last.L[0]))
			if len(want) == 0 {
				want = names{last.Name, "X"}
			}
			circles(t, append(l, is("X", not(cond(last.Name)))), want...)
		}
	}
}
