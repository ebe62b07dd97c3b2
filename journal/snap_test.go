package journal_test

import (
	"testing"

	"hoarding/api"
	"hoarding/journal"
)

// pair answers two rows whose frames have n bytes more than a file may have.
func pair(n int) []string {
	return []string{many(api.MaxRecord), many(api.MaxFile - api.MaxRecord - 8 + n)}
}

// P8.2: the rows take the place of all, of whatever file.
func TestSnap(t *testing.T) {
	snaps := [][]string{
		nil,
		{"A"},
		{"\x00", "A", "A", "BCD", frames("in", "it")},
		{many(api.MaxRecord), "x"},
		{many(255), many(256), many(257)},
		pair(0), pair(-1), pair(-5),
	}
	for _, was := range []string{"", frames("old"), frames("old", many(300)) + "\x00\x00", "no frame", frames(pair(0)...)} {
		for _, rows := range snaps {
			d := on(t, was)
			tells(t, "Snap", journal.Snap(d, loads(rows...)), api.OK)
			has(t, d, frames(rows...), false)
			holds(t, d, rows...)
			opens(t, d, 0, rows...)
			has(t, d, frames(rows...), false)
		}
	}
}

// P8.2: rows that are appended stand behind those of a Snap, which a later one replaces with them.
func TestAppendBehindSnap(t *testing.T) {
	d := on(t, frames("old", "older"))
	tells(t, "Snap", journal.Snap(d, loads("A", "BC")), api.OK)
	tells(t, "Append", journal.Append(d, []byte("DEF")), api.OK)
	tells(t, "Append", journal.Append(d, []byte("G")), api.OK)
	opens(t, d, 0, "A", "BC", "DEF", "G")
	tells(t, "Snap", journal.Snap(d, loads("H")), api.OK)
	opens(t, d, 0, "H")
	tells(t, "Append", journal.Append(d, []byte("I")), api.OK)
	opens(t, d, 0, "H", "I")
	tells(t, "Snap of none", journal.Snap(d, [][]byte{}), api.OK)
	opens(t, d, 0)
	tells(t, "Append", journal.Append(d, []byte("J")), api.OK)
	opens(t, d, 0, "J")

	d = on(t, "")
	tells(t, "Snap", journal.Snap(d, loads(pair(-5)...)), api.OK)
	tells(t, "a row with no room", journal.Append(d, []byte("xy")), api.ErrLong)
	tells(t, "a row with just room", journal.Append(d, []byte("x")), api.OK)
	tells(t, "a row for a file that is full", journal.Append(d, []byte("x")), api.ErrLong)
	opens(t, d, 0, append(pair(-5), "x")...)
}

// refusals are rows that a Snap refuses: the first that is wrong goes ahead of the others, and of too many bytes in all.
func refusals() []struct {
	what string
	rows [][]byte
	want api.Errno
} {
	good, none, long := []byte("A"), []byte{}, make([]byte, api.MaxRecord+1)
	most := []byte(many(api.MaxRecord))
	tiny := make([][]byte, api.MaxFile/5+1)
	same := make([][]byte, 1<<20)
	for i := range tiny {
		tiny[i] = good
	}
	for i := range same {
		same[i] = most
	}
	return []struct {
		what string
		rows [][]byte
		want api.Errno
	}{
		{"nil", [][]byte{nil}, api.ErrArg},
		{"none", [][]byte{none}, api.ErrArg},
		{"long", [][]byte{long}, api.ErrLong},
		{"good, none", [][]byte{good, none}, api.ErrArg},
		{"none, good", [][]byte{none, good}, api.ErrArg},
		{"good, long, good", [][]byte{good, long, good}, api.ErrLong},
		{"none, long", [][]byte{none, long}, api.ErrArg},
		{"long, none", [][]byte{long, none}, api.ErrLong},
		{"good, none, long, nil", [][]byte{good, none, long, nil}, api.ErrArg},
		{"good, long, none", [][]byte{good, long, none}, api.ErrLong},
		{"one byte more than may be", loads(pair(1)...), api.ErrLong},
		{"two bytes more", loads(pair(2)...), api.ErrLong},
		{"the longest twice", [][]byte{most, most}, api.ErrLong},
		{"just all, and one more", append(loads(pair(0)...), good), api.ErrLong},
		{"too many bytes, then none", [][]byte{most, most, none}, api.ErrArg},
		{"too many bytes, then none, then long", [][]byte{most, most, most, none, long}, api.ErrArg},
		{"none, then too many bytes", [][]byte{none, most, most}, api.ErrArg},
		{"too many of few bytes", tiny, api.ErrLong},
		{"too many of few bytes, then none", append(tiny, none), api.ErrArg},
		{"very many of many bytes", same, api.ErrLong},
		{"very many of many bytes, then none", append(same, none), api.ErrArg},
	}
}

// P8.2: what is refused, and that nothing is changed by it; the disk stays armed.
func TestSnapRefused(t *testing.T) {
	for _, x := range refusals() {
		for _, was := range []string{"", frames("A", "BC"), frames("A") + "\x00\x00"} {
			d := on(t, was)
			tells(t, x.what, journal.Snap(d, x.rows), x.want)
			has(t, d, was, false)
			d = armed(t, was, 2)
			tells(t, x.what, journal.Snap(d, x.rows), x.want)
			has(t, d, was, false)
			isArmed(t, d, 2)
			d = fallen(t, was)
			tells(t, x.what, journal.Snap(d, x.rows), x.want)
			has(t, d, was, true)
		}
	}
}

// P8.2: as many rows of few bytes as there is room for.
func TestSnapMany(t *testing.T) {
	rows := make([]string, api.MaxFile/5)
	for i := range rows {
		rows[i] = many(i%7 + 256)[i%7+255:]
	}
	d := on(t, frames("old"))
	tells(t, "Snap", journal.Snap(d, loads(rows...)), api.OK)
	opens(t, d, 0, rows...)
	tells(t, "Append", journal.Append(d, []byte("x")), api.ErrLong)
	holds(t, d, rows...)
}

// P8.2, P8.4: a torn Snap changes nothing, whatever number the disk is armed with: the rows are the old ones.
func TestTornSnap(t *testing.T) {
	for _, old := range [][]string{nil, {"A"}, {"A", many(300)}} {
		for _, torn := range []string{"", "\x00", "\x00\x00\x00\x02B", "no frame"} {
			for _, rows := range [][]string{nil, {"new"}, {"A", "new"}, old, pair(0)} {
				for _, n := range []int{0, 1, 4, 5, 7, 14, api.MaxFile} {
					d := armed(t, frames(old...)+torn, n)
					tells(t, "a torn Snap", journal.Snap(d, loads(rows...)), api.ErrDown)
					has(t, d, frames(old...)+torn, true)
					fails(t, d, api.ErrDown)
					tells(t, "Up", d.Up(), api.OK)
					holds(t, d, old...)
					opens(t, d, len(torn), old...)
					tells(t, "Snap", journal.Snap(d, loads(rows...)), api.OK)
					opens(t, d, 0, rows...)
				}
			}
		}
	}
}
