package journal_test

import (
	"slices"
	"testing"

	"hoarding/api"
	"hoarding/disk"
	"hoarding/journal"
)

// model is a journal by the chapter's words alone; its disk is armed with tear, or not: -1.
type model struct {
	rows []string
	torn string
	down bool
	tear int
}

// act is a call, and what the chapter says of it: the journal behind it, and what it answers.
type act struct {
	name string
	call func(*disk.Disk) api.Errno
	want func(model) (model, api.Errno)
	row  []string // of an Append: the one
	snap []string // of a Snap: all
	sets bool     // it is a Snap
}

// wrote answers m with rows, or, if it is armed, what a tear leaves: the old rows, and those bytes of what was appended.
func wrote(m model, rows []string, torn string) (model, api.Errno) {
	if m.tear < 0 {
		return model{rows, "", false, -1}, api.OK
	}
	return model{m.rows, torn, true, -1}, api.ErrDown
}

func appends(row string) act {
	return act{name: "Append " + row, row: []string{row}, call: func(d *disk.Disk) api.Errno { return journal.Append(d, []byte(row)) }, want: func(m model) (model, api.Errno) {
		one, all := frames(row), append(m.rows[:len(m.rows):len(m.rows)], row)
		switch {
		case row == "":
			return m, api.ErrArg
		case m.down:
			return m, api.ErrDown
		case m.torn != "":
			return wrote(m, all, m.torn)
		case m.tear >= len(one):
			return model{all, "", true, -1}, api.ErrDown
		}
		return wrote(m, all, one[:max(m.tear, 0)])
	}}
}

func snaps(rows ...string) act {
	return act{name: "Snap", snap: rows, sets: true, call: func(d *disk.Disk) api.Errno { return journal.Snap(d, loads(rows...)) }, want: func(m model) (model, api.Errno) {
		switch {
		case slices.Contains(rows, ""):
			return m, api.ErrArg
		case m.down:
			return m, api.ErrDown
		}
		return wrote(m, rows, m.torn)
	}}
}

func arms(n int) act {
	return act{name: "Arm", call: func(d *disk.Disk) api.Errno { return d.Arm(n) }, want: func(m model) (model, api.Errno) {
		if m.down {
			return m, api.ErrDown
		}
		m.tear = n
		return m, api.OK
	}}
}

func acts() []act {
	as := []act{
		{name: "Crash", call: (*disk.Disk).Crash, want: func(m model) (model, api.Errno) {
			if m.down {
				return m, api.ErrDown
			}
			return model{m.rows, m.torn, true, -1}, api.OK
		}},
		{name: "Up", call: (*disk.Disk).Up, want: func(m model) (model, api.Errno) {
			if !m.down {
				return m, api.ErrArg
			}
			m.down = false
			return m, api.OK
		}},
		{name: "Open", call: func(d *disk.Disk) api.Errno {
			_, _, e := journal.Open(d)
			return e
		}, want: func(m model) (model, api.Errno) {
			switch {
			case m.down:
				return m, api.ErrDown
			case m.torn == "":
				return m, api.OK
			}
			return wrote(m, m.rows, m.torn)
		}},
		appends(""), appends("A"), appends("\x00\x00\x00"), snaps(), snaps("B", "CD"), snaps("E", ""),
	}
	for _, n := range []int{0, 1, 4, 5, 6, 7} {
		as = append(as, arms(n))
	}
	return as
}

// revived answers what Open tells of d, seen behind a crash.
func revived(t *testing.T, d *disk.Disk) (rows []string, torn int) {
	t.Helper()
	c := d.Copy()
	c.Crash()
	c.Up()
	first, torn, e := journal.Open(c)
	again, none, f := journal.Open(c)
	if e != api.OK || f != api.OK || none != 0 || !slices.Equal(texts(first), texts(again)) || file(c) != frames(texts(first)...) {
		t.Fatalf("%q, %d torn, %d; again %q, %d, %d; the file %q", texts(first), torn, e, texts(again), none, f, file(c))
	}
	return texts(first), torn
}

// agrees does an act with d, which is as m has it, and asks whether the chapter says the same of it; it answers how it has it then.
func agrees(t *testing.T, a act, d *disk.Disk, m model, done []string) model {
	t.Helper()
	was, _ := revived(t, d)
	e := a.call(d)
	next, want := a.want(m)
	rows, torn := revived(t, d)
	if e != want || d.Down() != next.down || file(d) != frames(next.rows...)+next.torn || !slices.Equal(rows, next.rows) || torn != len(next.torn) {
		t.Fatalf("%q: %d, %q, down: %v; not %d, %v", done, e, file(d), d.Down(), want, next)
	}
	stands(t, a, e, was, rows, done)
	return next
}

// stands is P8.4, asked without the chapter's other words: what became of the rows by an act.
func stands(t *testing.T, a act, e api.Errno, was, rows, done []string) {
	t.Helper()
	all := append(was[:len(was):len(was)], a.row...)
	switch {
	case e == api.OK && a.sets && slices.Equal(rows, a.snap):
	case e == api.OK && !a.sets && slices.Equal(rows, all):
	case e == api.ErrDown && slices.Equal(rows, all): // torn, all of its bytes kept
	case e != api.OK && slices.Equal(rows, was):
	default:
		t.Fatalf("%q: %d, %q, behind %q", done, e, rows, was)
	}
}

// steps goes over all rows of at most deep acts behind a disk d, which is as m has it, each on a copy of its own; path tells what was done.
func steps(t *testing.T, as []act, deep int, d *disk.Disk, m model, path ...string) {
	if deep == 0 {
		return
	}
	for _, a := range as {
		c := d.Copy()
		done := append(path, a.name)
		steps(t, as, deep-1, c, agrees(t, a, c, m, done), done...)
	}
}

// P8.1, P8.2, P8.4: all rows of up to four acts, of a new disk and of one that has torn rows.
func TestAll(t *testing.T) {
	as := acts()
	steps(t, as, 4, disk.New(), model{tear: -1})
	steps(t, as, 3, on(t, frames("X", "YZ")+"\x00\x00\x00\x02Q"), model{rows: []string{"X", "YZ"}, torn: "\x00\x00\x00\x02Q", tear: -1})
}

// P8.1, P8.2, P8.4: a long row of acts on one disk, never copied.
func TestLongRow(t *testing.T) {
	as := acts()
	d, m := disk.New(), model{tear: -1}
	pick := uint32(1)
	for range 50000 {
		pick = pick*1664525 + 1013904223
		a := as[int(pick>>16)%len(as)]
		m = agrees(t, a, d, m, []string{a.name})
	}
}
