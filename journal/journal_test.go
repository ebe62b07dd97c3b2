package journal_test

import (
	"slices"
	"strings"
	"testing"

	"hoarding/api"
	"hoarding/disk"
	"hoarding/journal"
)

// frames answers the frames of loads, one behind the other, by the words of layer 7.
func frames(loads ...string) string {
	var b strings.Builder
	for _, load := range loads {
		n := len(load)
		b.Write([]byte{byte(n >> 24), byte(n >> 16), byte(n >> 8), byte(n)})
		b.WriteString(load)
	}
	return b.String()
}

// many answers n bytes, none like the one ahead of it.
func many(n int) string {
	b := make([]byte, n)
	for i := range b {
		b[i] = byte(i*7 + i>>8)
	}
	return string(b)
}

// on answers a disk that is up and not armed, with a file.
func on(t *testing.T, file string) *disk.Disk {
	t.Helper()
	d := disk.New()
	tells(t, "Swap of a new disk", d.Swap([]byte(file)), api.OK)
	return d
}

// armed answers a disk that is armed with n, with a file.
func armed(t *testing.T, file string, n int) *disk.Disk {
	t.Helper()
	d := on(t, file)
	tells(t, "Arm", d.Arm(n), api.OK)
	return d
}

// fallen answers a disk that is down, with a file.
func fallen(t *testing.T, file string) *disk.Disk {
	t.Helper()
	d := on(t, file)
	tells(t, "Crash", d.Crash(), api.OK)
	return d
}

func tells(t *testing.T, what string, got, want api.Errno) {
	t.Helper()
	if got != want {
		t.Errorf("%s: %d, not %d", what, got, want)
	}
}

// file answers the bytes of d, up or down, and leaves it as it is.
func file(d *disk.Disk) string {
	c := d.Copy()
	c.Up()
	b, _ := c.Bytes()
	return string(b)
}

// has asks whether d has just these bytes, and is down or not.
func has(t *testing.T, d *disk.Disk, want string, down bool) {
	t.Helper()
	if got := file(d); got != want || d.Down() != down {
		t.Errorf("the file: %.40q (%d bytes), down: %v; not %.40q (%d), %v", got, len(got), d.Down(), want, len(want), down)
	}
}

// isArmed asks whether the next write of d is torn, an Append behind its first n bytes (where there is room for it); it leaves d as it is.
func isArmed(t *testing.T, d *disk.Disk, n int) {
	t.Helper()
	c := d.Copy()
	c.Cut(0)
	if !c.Down() {
		t.Error("it is not armed any more")
	}
	c = d.Copy()
	if e := c.Append([]byte("new")); e != api.ErrLong && file(c) != file(d)+"new"[:n] {
		t.Errorf("it is not armed with %d", n)
	}
}

// texts answers rows as texts, which hold apart what may change.
func texts(rows [][]byte) []string {
	var list []string
	for _, row := range rows {
		list = append(list, string(row))
	}
	return list
}

// loads answers texts as rows.
func loads(texts ...string) [][]byte {
	var rows [][]byte
	for _, text := range texts {
		rows = append(rows, []byte(text))
	}
	return rows
}

// opens asks what Open tells of d.
func opens(t *testing.T, d *disk.Disk, torn int, want ...string) {
	t.Helper()
	rows, n, e := journal.Open(d)
	if !slices.Equal(texts(rows), want) || n != torn || e != api.OK {
		t.Errorf("Open: %.80q, %d torn, %d; not %.80q, %d", texts(rows), n, e, want, torn)
	}
}

// fails asks whether Open and Rows of d tell an error, and nothing beside it.
func fails(t *testing.T, d *disk.Disk, want api.Errno) {
	t.Helper()
	if rows, torn, e := journal.Open(d); len(rows) != 0 || torn != 0 || e != want {
		t.Errorf("Open: %q, %d torn, %d; not %d", texts(rows), torn, e, want)
	}
	if rows, e := journal.Rows(d); len(rows) != 0 || e != want {
		t.Errorf("Rows: %q, %d; not %d", texts(rows), e, want)
	}
}

// holds asks whether Rows tells these of d, and leaves it as it is.
func holds(t *testing.T, d *disk.Disk, want ...string) {
	t.Helper()
	was := file(d)
	rows, e := journal.Rows(d)
	if !slices.Equal(texts(rows), want) || e != api.OK {
		t.Errorf("Rows: %.80q, %d; not %.80q", texts(rows), e, want)
	}
	has(t, d, was, false)
}

// P8.1: rows one behind the other, and what stands in the file.
func TestAppend(t *testing.T) {
	d := disk.New()
	holds(t, d)
	opens(t, d, 0)
	var rows []string
	for _, row := range []string{"A", "\x00", "BCD", "\xff\n\"", frames("in", "it"), "A", many(300), many(70000), "\x00\x00\x00\x09"} {
		tells(t, "Append", journal.Append(d, []byte(row)), api.OK)
		rows = append(rows, row)
		has(t, d, frames(rows...), false)
		holds(t, d, rows...)
		opens(t, d, 0, rows...)
		has(t, d, frames(rows...), false)
	}
}

// P8.1: the lengths that a row may have.
func TestAppendLengths(t *testing.T) {
	for _, n := range []int{1, 2, 255, 256, 65535, 65536, api.MaxRecord - 1, api.MaxRecord} {
		d := on(t, frames("first"))
		tells(t, "Append", journal.Append(d, []byte(many(n))), api.OK)
		holds(t, d, "first", many(n))
		has(t, d, frames("first", many(n)), false)
	}
	for _, x := range wrong() {
		d := armed(t, frames("first"), 2)
		tells(t, x.what, journal.Append(d, x.row), x.want)
		has(t, d, frames("first"), false)
		isArmed(t, d, 2)
	}
}

// refused is a row that is none.
type refused struct {
	what string
	row  []byte
	want api.Errno
}

func wrong() []refused {
	return []refused{
		{"a nil row", nil, api.ErrArg},
		{"a row of no bytes", []byte{}, api.ErrArg},
		{"a row of no bytes, with room", make([]byte, 0, 8), api.ErrArg},
		{"a row of one byte more", make([]byte, api.MaxRecord+1), api.ErrLong},
		{"a row of many bytes more", make([]byte, 1<<24), api.ErrLong},
	}
}

// P8.1: a row for which the file has just room, and none.
func TestAppendRoom(t *testing.T) {
	first := many(api.MaxRecord)
	for _, n := range []int{1, 2, 5, 1000} {
		second := many(api.MaxFile - (api.MaxRecord + 4) - 4 - (n + 4))
		full := frames(first, second)
		d := on(t, full)
		for _, more := range []int{1, 2, 100} {
			tells(t, "a row with no room", journal.Append(d, []byte(many(n+more))), api.ErrLong)
			has(t, d, full, false)
		}
		tells(t, "a row with just room", journal.Append(d, []byte(many(n))), api.OK)
		has(t, d, full+frames(many(n)), false)
		holds(t, d, first, second, many(n))
		if d.Len() != api.MaxFile {
			t.Errorf("%d bytes, not %d", d.Len(), api.MaxFile)
		}
		tells(t, "a row for a file that is full", journal.Append(d, []byte("x")), api.ErrLong)
		has(t, d, full+frames(many(n)), false)

		d = armed(t, full, 3)
		tells(t, "a row with no room, armed", journal.Append(d, []byte(many(n+1))), api.ErrLong)
		has(t, d, full, false)
		isArmed(t, d, 3)
		tells(t, "a row with just room, armed", journal.Append(d, []byte(many(n))), api.ErrDown)
		has(t, d, full+frames(many(n))[:3], true)
	}
}

// P8.1, P8.2, R1: a disk that is not there, beside arguments that are wrong.
func TestNil(t *testing.T) {
	fails(t, nil, api.ErrNil)
	tells(t, "Append", journal.Append(nil, []byte("A")), api.ErrNil)
	tells(t, "Append", journal.Append(nil, []byte(many(api.MaxRecord))), api.ErrNil)
	for _, x := range wrong() {
		tells(t, "Append of "+x.what, journal.Append(nil, x.row), x.want)
		tells(t, "Snap of "+x.what, journal.Snap(nil, [][]byte{[]byte("A"), x.row}), api.ErrNil)
	}
	tells(t, "Snap of nil", journal.Snap(nil, nil), api.ErrNil)
	tells(t, "Snap of none", journal.Snap(nil, [][]byte{}), api.ErrNil)
	tells(t, "Snap", journal.Snap(nil, loads("A", "BC")), api.ErrNil)
	tells(t, "Snap of too many bytes", journal.Snap(nil, loads(many(api.MaxRecord), many(api.MaxRecord))), api.ErrNil)
}

// P8.1, P8.2: a disk that is down; what a row, or all of them, can be refused for goes ahead of that.
func TestDown(t *testing.T) {
	full := frames(many(api.MaxRecord), many(api.MaxFile-api.MaxRecord-8))
	for _, was := range []string{"", frames("A", "BC"), frames("A") + "\x00\x00", "no frame", full} {
		d := fallen(t, was)
		fails(t, d, api.ErrDown)
		tells(t, "Append", journal.Append(d, []byte("A")), api.ErrDown)
		tells(t, "Append", journal.Append(d, []byte(many(api.MaxRecord))), api.ErrDown)
		tells(t, "Snap of none", journal.Snap(d, nil), api.ErrDown)
		tells(t, "Snap", journal.Snap(d, loads("A", "BC")), api.ErrDown)
		tells(t, "Snap of too many bytes", journal.Snap(d, loads(many(api.MaxRecord), many(api.MaxRecord))), api.ErrLong)
		for _, x := range wrong() {
			tells(t, "Append of "+x.what, journal.Append(d, x.row), x.want)
			tells(t, "Snap of "+x.what, journal.Snap(d, [][]byte{[]byte("A"), x.row}), x.want)
		}
		has(t, d, was, true)
	}
}

// The chapter's example.
func TestExample(t *testing.T) {
	d := disk.New()
	tells(t, "Append", journal.Append(d, []byte{65}), api.OK)
	tells(t, "Arm", d.Arm(4), api.OK)
	tells(t, "Append", journal.Append(d, []byte{66}), api.ErrDown)
	tells(t, "Up", d.Up(), api.OK)
	opens(t, d, 4, "A")
}
