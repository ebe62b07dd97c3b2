package disk_test

import (
	"bytes"
	"math"
	"testing"

	"hoarding/api"
	"hoarding/disk"
)

// on answers a disk that is up and not armed, with a file.
func on(t *testing.T, file string) *disk.Disk {
	t.Helper()
	d := disk.New()
	tells(t, "Append to a new disk", d.Append([]byte(file)), api.OK)
	return d
}

// armed answers a disk that is armed with n, with a file.
func armed(t *testing.T, file string, n int) *disk.Disk {
	t.Helper()
	d := on(t, file)
	tells(t, "Arm", d.Arm(n), api.OK)
	return d
}

// fallen answers a disk that is down, with a file.
func fallen(t *testing.T, file string) *disk.Disk {
	t.Helper()
	d := on(t, file)
	tells(t, "Crash", d.Crash(), api.OK)
	return d
}

func tells(t *testing.T, what string, got, want api.Errno) {
	t.Helper()
	if got != want {
		t.Errorf("%s: %d, not %d", what, got, want)
	}
}

// has asks d, by all that tells, whether it has the file and is down or not.
func has(t *testing.T, d *disk.Disk, file string, down bool) {
	t.Helper()
	if d.Down() != down || d.Len() != len(file) {
		t.Errorf("down: %v, %d bytes; not %v, %d", d.Down(), d.Len(), down, len(file))
	}
	b, e := d.Bytes()
	if down {
		if len(b) != 0 || e != api.ErrDown {
			t.Errorf("Bytes of one that is down: %.40q, %d", b, e)
		}
		c := d.Copy()
		c.Up()
		b, e = c.Bytes()
	}
	if string(b) != file || e != api.OK {
		t.Errorf("Bytes: %.40q (%d bytes), %d; not %.40q", b, len(b), e, file)
	}
}

// whole asks whether the next Append is not torn; it leaves d as it is.
func whole(t *testing.T, d *disk.Disk) {
	t.Helper()
	c := d.Copy()
	tells(t, "Append", c.Append([]byte("new")), api.OK)
	has(t, c, string(held(t, d))+"new", false)
}

// torn asks whether the next Append is torn behind its first n bytes, of 3; it leaves d as it is.
func torn(t *testing.T, d *disk.Disk, n int) {
	t.Helper()
	c := d.Copy()
	tells(t, "a torn Append", c.Append([]byte("new")), api.ErrDown)
	has(t, c, string(held(t, d))+"new"[:n], true)
}

// held answers the bytes of d, which is up.
func held(t *testing.T, d *disk.Disk) []byte {
	t.Helper()
	b, e := d.Bytes()
	tells(t, "Bytes", e, api.OK)
	return b
}

// P6.1: the file, of writes one behind the other.
func TestWrites(t *testing.T) {
	d := disk.New()
	has(t, d, "", false)
	whole(t, d)
	tells(t, "Append", d.Append([]byte("abc")), api.OK)
	has(t, d, "abc", false)
	tells(t, "Append", d.Append([]byte{0, 255, '\n'}), api.OK)
	has(t, d, "abc\x00\xff\n", false)
	tells(t, "Append of none", d.Append(nil), api.OK)
	tells(t, "Append of none", d.Append([]byte{}), api.OK)
	has(t, d, "abc\x00\xff\n", false)
	tells(t, "Swap", d.Swap([]byte("xyz")), api.OK)
	has(t, d, "xyz", false)
	tells(t, "Append", d.Append([]byte("!")), api.OK)
	has(t, d, "xyz!", false)
	tells(t, "Cut", d.Cut(1), api.OK)
	has(t, d, "x", false)
	tells(t, "Append", d.Append([]byte("-")), api.OK)
	has(t, d, "x-", false)
	tells(t, "Swap for none", d.Swap(nil), api.OK)
	has(t, d, "", false)
	tells(t, "Append", d.Append([]byte("end")), api.OK)
	has(t, d, "end", false)
}

// P6.1: disks that New answers have nothing to do with one another.
func TestNew(t *testing.T) {
	a, b := disk.New(), disk.New()
	tells(t, "Append", a.Append([]byte("a")), api.OK)
	tells(t, "Arm", a.Arm(0), api.OK)
	has(t, b, "", false)
	whole(t, b)
	tells(t, "Crash", b.Crash(), api.OK)
	has(t, a, "a", false)
	torn(t, a, 0)
}

// A disk that nothing made is as one that New made (R1).
func TestZero(t *testing.T) {
	d := &disk.Disk{}
	has(t, d, "", false)
	whole(t, d)
	tells(t, "Up", d.Up(), api.ErrArg)
	tells(t, "Cut", d.Cut(0), api.OK)
	tells(t, "Arm", d.Arm(2), api.OK)
	torn(t, d, 2)
}

// P6.1: where it is cut.
func TestCut(t *testing.T) {
	for _, file := range []string{"", "a", "abcd"} {
		for n := range len(file) + 1 {
			d := on(t, file)
			tells(t, "Cut", d.Cut(n), api.OK)
			has(t, d, file[:n], false)
			tells(t, "Append behind a Cut", d.Append([]byte("xy")), api.OK)
			has(t, d, file[:n]+"xy", false)
		}
		for _, n := range []int{-1, -2, -len(file) - 1, math.MinInt, len(file) + 1, len(file) + 2, math.MaxInt} {
			d := on(t, file)
			tells(t, "Cut outside", d.Cut(n), api.ErrArg)
			has(t, d, file, false)
			tells(t, "Arm", d.Arm(1), api.OK)
			tells(t, "Cut outside, armed", d.Cut(n), api.ErrArg)
			has(t, d, file, false)
			torn(t, d, 1)
		}
	}
	d := on(t, "abcd")
	tells(t, "Cut", d.Cut(2), api.OK)
	tells(t, "Cut where it had been longer", d.Cut(3), api.ErrArg)
	has(t, d, "ab", false)
}

// P6.1: exactly as many bytes as may be, and one more.
func TestLongest(t *testing.T) {
	full := bytes.Repeat([]byte("0123456789abcdef"), api.MaxFile/16)
	d := disk.New()
	tells(t, "Append of all", d.Append(full), api.OK)
	has(t, d, string(full), false)
	tells(t, "one byte more", d.Append([]byte("x")), api.ErrLong)
	tells(t, "Append of all, twice", d.Append(full), api.ErrLong)
	has(t, d, string(full), false)
	tells(t, "none more", d.Append(nil), api.OK)
	has(t, d, string(full), false)
	tells(t, "Cut", d.Cut(api.MaxFile-2), api.OK)
	tells(t, "3, where 2 may be", d.Append([]byte("xyz")), api.ErrLong)
	has(t, d, string(full[:api.MaxFile-2]), false)
	tells(t, "2, where 2 may be", d.Append([]byte("xy")), api.OK)
	has(t, d, string(full[:api.MaxFile-2])+"xy", false)
	tells(t, "Swap of all", d.Swap(full), api.OK)
	has(t, d, string(full), false)
	for _, more := range []int{1, 2, api.MaxFile, 1 << 24} {
		long := make([]byte, api.MaxFile+more)
		tells(t, "Swap of more", d.Swap(long), api.ErrLong)
		has(t, d, string(full), false)
		tells(t, "Append of more", disk.New().Append(long), api.ErrLong)
	}
	small := on(t, "abc")
	tells(t, "Append of all to 3", small.Append(full), api.ErrLong)
	tells(t, "Swap of one more", small.Swap(append(full, 'x')), api.ErrLong)
	has(t, small, "abc", false)
	tells(t, "as many as may be", small.Append(full[3:]), api.OK)
	has(t, small, "abc"+string(full[3:]), false)
	tells(t, "one byte more", small.Append([]byte("x")), api.ErrLong)
}

// P6.1, P6.2: what is refused as too long changes nothing and is not torn: the disk stays armed, and up.
func TestLongArmed(t *testing.T) {
	long := make([]byte, api.MaxFile+1)
	for n := range 4 {
		d := armed(t, "abc", n)
		for range 3 {
			tells(t, "Append of one more", d.Append(long[3:]), api.ErrLong)
			tells(t, "Append", d.Append(long), api.ErrLong)
			tells(t, "Swap", d.Swap(long), api.ErrLong)
			has(t, d, "abc", false)
			torn(t, d, n)
		}
	}
	full := bytes.Repeat([]byte("f"), api.MaxFile)
	d := armed(t, string(full), 0)
	tells(t, "one byte more", d.Append([]byte("x")), api.ErrLong)
	has(t, d, string(full), false)
	tells(t, "Append of none", d.Append(nil), api.ErrDown)
	has(t, d, string(full), true)
}
