package journal_test

import (
	"strings"
	"testing"

	"hoarding/api"
	"hoarding/journal"
)

// read is what the chapter says of a file: its rows, and what is torn behind them.
type read struct {
	rows []string
	torn string
}

func (r read) file() string { return frames(r.rows...) + r.torn }

// files are whole ones, ones that are torn behind each of the first bytes of a frame, and ones that hold what is no frame.
func files() []read {
	list := []read{
		{},
		{rows: []string{"A"}},
		{rows: []string{"A", "BC", "\x00", frames("in", "it"), many(300)}},
		{rows: []string{many(api.MaxRecord), many(api.MaxFile - api.MaxRecord - 8)}},
	}
	for _, rows := range [][]string{nil, {"A"}, {"A", many(300), "BC"}} {
		for _, torn := range []string{frames("B"), frames("BCDE"), frames("\x00\x00\x00\x01A"), frames(many(300))} {
			for n := 1; n < len(torn); n++ {
				list = append(list, read{rows, torn[:n]})
			}
		}
		for _, torn := range []string{
			"x", "no", "non", "\x00\x00\x00\x00", "\x00\x08\x00\x01", "\x01\x00\x00\x00", "\x80\x00\x00\x01", "\xff\xff\xff\xff",
		} {
			list = append(list, read{rows, torn}, read{rows, torn + "A"}, read{rows, torn + "more of it, which begins no frame"})
		}
		// Frames that are whole, but stand behind what is none.
		for _, torn := range []string{"\x00\x00\x00\x00", "\xff\xff\xff\xff", "\x00\x08\x00\x01A"} {
			list = append(list, read{rows, torn + frames("A", "BC")})
		}
	}
	list = append(list,
		read{nil, strings.Repeat("\x00", api.MaxFile)},
		read{[]string{"A"}, strings.Repeat("\x7f", api.MaxFile-5)},
		read{[]string{many(api.MaxRecord)}, frames(many(api.MaxRecord))[:api.MaxFile-api.MaxRecord-4]},
	)
	return list
}

// P8.1: Open tells the rows and how many bytes are torn, and cuts these; again it cuts nothing.
func TestOpen(t *testing.T) {
	for _, x := range files() {
		d := on(t, x.file())
		opens(t, d, len(x.torn), x.rows...)
		for range 2 {
			has(t, d, frames(x.rows...), false)
			opens(t, d, 0, x.rows...)
		}
		d = on(t, x.file())
		opens(t, d, len(x.torn), x.rows...)
		if len(x.file()) < 2000 {
			tells(t, "Append behind Open", journal.Append(d, []byte("new")), api.OK)
			opens(t, d, 0, append(x.rows[:len(x.rows):len(x.rows)], "new")...)
		}
	}
}

// P8.1: Rows tells the same, and cuts nothing, be the disk armed or not.
func TestRows(t *testing.T) {
	for _, x := range files() {
		d := on(t, x.file())
		holds(t, d, x.rows...)
		holds(t, d, x.rows...)
		opens(t, d, len(x.torn), x.rows...)
		d = armed(t, x.file(), 0)
		holds(t, d, x.rows...)
		has(t, d, x.file(), false)
		isArmed(t, d, 0)
	}
}

// P8.1: an armed disk goes down by the cut, whatever number it is armed with: nothing is told but that, and nothing is cut. Where nothing is to be cut it stays as it is.
func TestOpenArmed(t *testing.T) {
	for _, x := range files() {
		for _, n := range []int{0, 1, api.MaxFile} {
			d := armed(t, x.file(), n)
			if x.torn == "" {
				opens(t, d, 0, x.rows...)
				has(t, d, x.file(), false)
				isArmed(t, d, min(n, 3))
				continue
			}
			rows, torn, e := journal.Open(d)
			if len(rows) != 0 || torn != 0 || e != api.ErrDown {
				t.Errorf("Open, armed: %.80q, %d torn, %d", texts(rows), torn, e)
			}
			has(t, d, x.file(), true)
			fails(t, d, api.ErrDown)
			tells(t, "Up", d.Up(), api.OK)
			opens(t, d, len(x.torn), x.rows...)
			opens(t, d, 0, x.rows...)
			has(t, d, frames(x.rows...), false)
		}
	}
}

// P8.1, P8.4: an armed Append keeps none, some and all of the frame's bytes.
func TestTornAppend(t *testing.T) {
	for _, ahead := range [][]string{nil, {"A"}, {"A", many(300)}} {
		for _, row := range []string{"B", "BCDEF", "\x00\x00\x00\x01A", many(260)} {
			one := frames(row)
			for n := range len(one) + 3 {
				d := armed(t, frames(ahead...), n)
				tells(t, "a torn Append", journal.Append(d, []byte(row)), api.ErrDown)
				kept := min(n, len(one))
				has(t, d, frames(ahead...)+one[:kept], true)
				fails(t, d, api.ErrDown)
				tells(t, "Up", d.Up(), api.OK)
				rows, torn := ahead, kept
				if kept == len(one) {
					rows, torn = append(ahead[:len(ahead):len(ahead)], row), 0
				}
				holds(t, d, rows...)
				opens(t, d, torn, rows...)
				opens(t, d, 0, rows...)
				tells(t, "Append", journal.Append(d, []byte("new")), api.OK)
				opens(t, d, 0, append(rows[:len(rows):len(rows)], "new")...)
			}
		}
	}
}

// P8.1, P8.4: a row that is appended behind a frame that breaks off stands behind all rows, though no Open was between: it takes its place.
func TestAppendBehindTorn(t *testing.T) {
	for _, rows := range [][]string{nil, {"A"}, {"A", many(300), "BC"}} {
		for _, row := range []string{"B", "\x00\x00\x00\x01", many(300)} {
			for _, broken := range []string{frames("B"), frames("\x00\x00\x00\x01A"), frames(many(300))} {
				for n := 1; n < len(broken); n++ {
					was, all := frames(rows...)+broken[:n], append(rows[:len(rows):len(rows)], row)
					d := on(t, was)
					tells(t, "Append", journal.Append(d, []byte(row)), api.OK)
					holds(t, d, all...)
					opens(t, d, 0, all...)
					has(t, d, frames(all...), false)
					for _, tear := range []int{0, 4, 1000} {
						d = armed(t, was, tear)
						tells(t, "a torn Append", journal.Append(d, []byte(row)), api.ErrDown)
						tells(t, "Up", d.Up(), api.OK)
						holds(t, d, rows...)
					}
				}
			}
		}
	}
}

// P8.1: behind a frame that breaks off, there is room for a row where there would be without it.
func TestAppendBehindTornRoom(t *testing.T) {
	rows := []string{many(api.MaxRecord), many(api.MaxFile - api.MaxRecord - 8 - 9)}
	was := frames(rows...) + frames("broken")[:9]
	d := on(t, was)
	tells(t, "a row with no room", journal.Append(d, []byte("sixsix")), api.ErrLong)
	has(t, d, was, false)
	tells(t, "a row with just room", journal.Append(d, []byte("fives")), api.OK)
	has(t, d, frames(append(rows, "fives")...), false)
}

// Bytes that no torn Append leaves are not taken away by an Append: only Open cuts them.
func TestAppendBehindOthers(t *testing.T) {
	for _, rows := range [][]string{nil, {"A", "BC"}} {
		for _, torn := range []string{"none", "\x00\x00\x00\x00", "\x00\x08\x00\x01A", "\xff\xff\xff\xff" + frames("A")} {
			d := on(t, frames(rows...)+torn)
			tells(t, "Append", journal.Append(d, []byte("new")), api.OK)
			has(t, d, frames(rows...)+torn+frames("new"), false)
			opens(t, d, len(torn)+7, rows...)
		}
	}
}
