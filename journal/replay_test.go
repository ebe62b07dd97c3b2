package journal_test

import (
	"math"
	"slices"
	"testing"

	"hoarding/journal"
)

// told are the rows of a replay, with their numbers.
type told struct {
	numbers []int
	rows    []string
}

func (x told) is(y told) bool {
	return slices.Equal(x.numbers, y.numbers) && slices.Equal(x.rows, y.rows)
}

// gone goes over all of it.
func gone(all func(func(int, []byte) bool)) told {
	var x told
	for i, row := range all {
		x.numbers, x.rows = append(x.numbers, i), append(x.rows, string(row))
	}
	return x
}

// from answers what is to be told of rows, of which some are to be left out.
func from(rows []string, first int) told {
	var x told
	for i, row := range rows {
		if i >= first {
			x.numbers, x.rows = append(x.numbers, i), append(x.rows, row)
		}
	}
	return x
}

// P8.3: from each number on, and from those that are brought in, gone over twice.
func TestReplay(t *testing.T) {
	long := make([]string, 1000)
	for i := range long {
		long[i] = many(i % 5)
	}
	for _, rows := range [][]string{nil, {"A"}, {"A", "BC", "", "A", "\x00\xff"}, long, pair(1000)} {
		starts := []int{-1, -2, -len(rows), math.MinInt, len(rows) + 1, len(rows) + 2, math.MaxInt}
		for n := range len(rows) + 1 {
			starts = append(starts, n)
		}
		for _, n := range starts {
			all := journal.Replay(loads(rows...), n)
			for range 2 {
				if got := gone(all); !got.is(from(rows, n)) {
					t.Fatalf("from %d of %d: %d rows, %.40v", n, len(rows), len(got.rows), got.numbers)
				}
			}
		}
	}
	for range journal.Replay([][]byte{}, 0) {
		t.Error("a row of none")
	}
}

// P8.3: rows need not be such as a journal may have.
func TestReplayAny(t *testing.T) {
	if got := gone(journal.Replay([][]byte{nil, {}, []byte("A"), nil}, 0)); !got.is(from([]string{"", "", "A", ""}, 0)) {
		t.Errorf("%v", got)
	}
}

// P8.3, R4: it is left behind each of its rows, and gone over again, from its beginning.
func TestReplayLeft(t *testing.T) {
	rows := []string{"A", "BC", "DEF", "G", "HI"}
	for _, first := range []int{-3, 0, 2, 4} {
		want := from(rows, first)
		all := journal.Replay(loads(rows...), first)
		for n := range len(want.rows) {
			var got told
			for i, row := range all {
				got.numbers, got.rows = append(got.numbers, i), append(got.rows, string(row))
				if len(got.rows) == n+1 {
					break
				}
			}
			if !got.is(told{want.numbers[:n+1], want.rows[:n+1]}) {
				t.Errorf("from %d, left behind %d: %v", first, n+1, got)
			}
			calls := 0
			all(func(int, []byte) bool {
				calls++
				return calls <= n
			})
			if calls != n+1 {
				t.Errorf("from %d: told %d more, once left", first, calls-n-1)
			}
			if got := gone(all); !got.is(want) {
				t.Errorf("from %d, again: %v", first, got)
			}
		}
	}
}

// R4: it is gone over while it is gone over; each goes its own way.
func TestReplayInReplay(t *testing.T) {
	all := journal.Replay(loads("A", "B", "C"), 1)
	var pairs []string
	for _, outer := range all {
		for _, inner := range all {
			pairs = append(pairs, string(outer)+string(inner))
			spoil(inner)
		}
	}
	if !slices.Equal(pairs, []string{"BB", "BC", "CB", "CC"}) {
		t.Errorf("%q", pairs)
	}
}

// R4: it tells what there was when it was called, whatever became since of what was handed in and of what it told.
func TestReplayWas(t *testing.T) {
	texts := []string{"A", "BCD", "", "EF"}
	for first := range texts {
		want := from(texts, first)
		rows := loads(texts...)
		all := journal.Replay(rows, first)
		for i, row := range rows {
			spoil(row)
			rows[i] = []byte("other")
		}
		if got := gone(all); !got.is(want) {
			t.Errorf("%v, once what was handed in is changed", got)
		}
		var got told
		for i, row := range all {
			got.numbers, got.rows = append(got.numbers, i), append(got.rows, string(row))
			spoil(row)
			spoil(append(row, "####"...))
			rows[min(i+1, 3)] = nil
		}
		if !got.is(want) {
			t.Errorf("%v, while what it tells is changed", got)
		}
		if got := gone(all); !got.is(want) {
			t.Errorf("%v, once what it told is changed", got)
		}
	}
}
