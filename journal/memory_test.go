package journal_test

import (
	"slices"
	"testing"

	"hoarding/api"
	"hoarding/disk"
	"hoarding/journal"
)

// spoil changes all that b has, and the room behind it.
func spoil(b []byte) {
	b = b[:cap(b)]
	for i := range b {
		b[i] = '#'
	}
}

// ways are the two that tell a journal's rows.
func ways() map[string]func(*disk.Disk) [][]byte {
	return map[string]func(*disk.Disk) [][]byte{
		"Open": func(d *disk.Disk) [][]byte {
			rows, _, _ := journal.Open(d)
			return rows
		},
		"Rows": func(d *disk.Disk) [][]byte {
			rows, _ := journal.Rows(d)
			return rows
		},
	}
}

// R4: a row that is told can be changed, with the room behind it, and appended to, without anything else changing.
func TestToldApart(t *testing.T) {
	want := []string{"A", "BCD", "EF", "G"}
	deeds := map[string]func([]byte){
		"append one byte": func(b []byte) { _ = append(b, '#') },
		"append many":     func(b []byte) { _ = append(b, many(99)...) },
		"spoil":           spoil,
		"append behind spoiling": func(b []byte) {
			spoil(b)
			spoil(append(b, "####"...))
		},
	}
	for name, way := range ways() {
		for what, deed := range deeds {
			for i := range want {
				for _, torn := range []string{"", "torn"} {
					d := on(t, frames(want...)+torn)
					one, two := way(d), way(d)
					was := file(d)
					deed(one[i])
					one[i] = []byte(want[i])
					if !slices.Equal(texts(one), want) || !slices.Equal(texts(two), want) {
						t.Errorf("%s, %s of row %d: %q, %q", name, what, i, texts(one), texts(two))
					}
					has(t, d, was, false)
				}
			}
		}
	}
}

// R4: rows that were told stay as they were, whatever becomes of the disk.
func TestToldStays(t *testing.T) {
	want := []string{"A", "BCD"}
	for name, way := range ways() {
		d := on(t, frames(want...))
		rows := way(d)
		tells(t, "Append", journal.Append(d, []byte("EF")), api.OK)
		tells(t, "Snap", journal.Snap(d, loads("other", "rows")), api.OK)
		if !slices.Equal(texts(rows), want) {
			t.Errorf("%s: %q", name, texts(rows))
		}
	}
}

// R4: what is handed to Append is neither kept nor changed, nor is what stands behind it.
func TestAppendMemory(t *testing.T) {
	for _, was := range []string{"", frames("A"), frames("A") + "\x00\x00"} {
		for _, tear := range []int{-1, 0, 6, 100} {
			d := on(t, was)
			if tear >= 0 {
				tells(t, "Arm", d.Arm(tear), api.OK)
			}
			roomy := []byte("rowsroom")
			journal.Append(d, roomy[:4])
			if string(roomy) != "rowsroom" {
				t.Errorf("what was handed in is %q", roomy)
			}
			kept := file(d)
			spoil(roomy)
			d.Up()
			has(t, d, kept, false)
			journal.Append(d, []byte("new"))
			if string(roomy) != "########" {
				t.Errorf("what was handed in is %q, behind another Append", roomy)
			}
		}
	}
}

// R4: what is handed to Snap is neither kept nor changed: not the list, not its rows, not what stands behind them.
func TestSnapMemory(t *testing.T) {
	want := []string{"AB", "C", "AB", "DEF"}
	for _, tear := range []int{-1, 0} {
		d := on(t, frames("old"))
		if tear >= 0 {
			tells(t, "Arm", d.Arm(tear), api.OK)
		}
		roomy := []byte("ABCDEFroom")
		rows := [][]byte{roomy[:2], roomy[2:3], roomy[:2], roomy[3:6], roomy[6:]}
		journal.Snap(d, rows[:4])
		if string(roomy) != "ABCDEFroom" || !slices.Equal(texts(rows), append(slices.Clone(want), "room")) {
			t.Errorf("what was handed in is %q, %q", texts(rows), roomy)
		}
		kept := file(d)
		spoil(roomy)
		clear(rows)
		d.Up()
		has(t, d, kept, false)
		if tear < 0 {
			holds(t, d, want...)
		}
	}
}

// R4: the rows that a journal tells can be handed to it again.
func TestRoundabout(t *testing.T) {
	d := on(t, frames("A", "BCD")+"torn")
	rows, _, _ := journal.Open(d)
	tells(t, "Append", journal.Append(d, rows[0]), api.OK)
	tells(t, "Snap", journal.Snap(d, append(rows, rows...)), api.OK)
	for _, row := range rows {
		spoil(row)
	}
	opens(t, d, 0, "A", "BCD", "A", "BCD")
}
