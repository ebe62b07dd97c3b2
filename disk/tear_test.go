package disk_test

import (
	"bytes"
	"math"
	"testing"

	"hoarding/api"
	"hoarding/disk"
)

// P6.2: which number a disk may be armed with, and how often.
func TestArm(t *testing.T) {
	for _, n := range []int{-1, -2, math.MinInt} {
		d := on(t, "abc")
		tells(t, "Arm below 0", d.Arm(n), api.ErrArg)
		has(t, d, "abc", false)
		whole(t, d)
		tells(t, "Arm", d.Arm(1), api.OK)
		tells(t, "Arm below 0", d.Arm(n), api.ErrArg)
		torn(t, d, 1)
	}
	for _, ahead := range []int{0, 1, 2, 3, 4, math.MaxInt} {
		for n := range 4 {
			d := armed(t, "abc", ahead)
			tells(t, "Arm again", d.Arm(n), api.OK)
			has(t, d, "abc", false)
			torn(t, d, n)
		}
	}
	for _, n := range []int{3, 4, 5, api.MaxFile, math.MaxInt} {
		torn(t, armed(t, "abc", n), 3)
		torn(t, armed(t, "", n), 3)
	}
}

// P6.1, P6.2: a torn Append keeps a beginning: none, some, all.
func TestTornAppend(t *testing.T) {
	for _, file := range []string{"", "a", "abcd"} {
		for _, b := range []string{"", "x", "vwxyz"} {
			for _, n := range []int{0, 1, 2, 3, 4, 5, 6, 100, math.MaxInt} {
				d := armed(t, file, n)
				tells(t, "a torn Append", d.Append([]byte(b)), api.ErrDown)
				has(t, d, file+b[:min(n, len(b))], true)
				again(t, d, file+b[:min(n, len(b))])
			}
		}
	}
	full := bytes.Repeat([]byte("0123456789abcdef"), api.MaxFile/16)
	for _, n := range []int{0, 1, api.MaxFile - 4, api.MaxFile - 3, api.MaxFile, math.MaxInt} {
		d := armed(t, "abc", n)
		tells(t, "a torn Append of all that may be", d.Append(full[3:]), api.ErrDown)
		has(t, d, "abc"+string(full[3:][:min(n, api.MaxFile-3)]), true)
	}
}

// P6.1, P6.2: a torn Swap or Cut changes nothing, with whatever number it is armed.
func TestTornWhole(t *testing.T) {
	for _, file := range []string{"", "a", "abcd"} {
		for _, n := range []int{0, 1, 2, 100, math.MaxInt} {
			for _, b := range []string{"", "x", "vwxyz", file} {
				d := armed(t, file, n)
				tells(t, "a torn Swap", d.Swap([]byte(b)), api.ErrDown)
				has(t, d, file, true)
				again(t, d, file)
			}
			for at := range len(file) + 1 {
				d := armed(t, file, n)
				tells(t, "a torn Cut", d.Cut(at), api.ErrDown)
				has(t, d, file, true)
				again(t, d, file)
			}
		}
	}
}

// again brings d, which is down, up, and asks whether it has the file and is not armed any more.
func again(t *testing.T, d *disk.Disk, file string) {
	t.Helper()
	tells(t, "Up", d.Up(), api.OK)
	has(t, d, file, false)
	whole(t, d)
	swapped, cut := d.Copy(), d.Copy()
	tells(t, "Swap", swapped.Swap([]byte("new")), api.OK)
	has(t, swapped, "new", false)
	tells(t, "Cut", cut.Cut(0), api.OK)
	has(t, cut, "", false)
}

// P6.2: what is no write is not torn.
func TestArmedLooks(t *testing.T) {
	d := armed(t, "abc", 2)
	for range 3 {
		has(t, d, "abc", false)
		tells(t, "Up", d.Up(), api.ErrArg)
		torn(t, d, 2)
	}
}

// P6.2: a Crash, of a disk that is armed or not; Up, again and again.
func TestCrash(t *testing.T) {
	for _, arm := range []int{-1, 0, 2, math.MaxInt} {
		d := on(t, "abc")
		if arm >= 0 {
			tells(t, "Arm", d.Arm(arm), api.OK)
		}
		tells(t, "Crash", d.Crash(), api.OK)
		has(t, d, "abc", true)
		tells(t, "Crash of one that is down", d.Crash(), api.ErrDown)
		has(t, d, "abc", true)
		again(t, d, "abc")
		for range 2 {
			tells(t, "Up of one that is up", d.Up(), api.ErrArg)
			has(t, d, "abc", false)
		}
		tells(t, "Arm", d.Arm(1), api.OK)
		torn(t, d, 1)
	}
	d := disk.New()
	tells(t, "Up of a new one", d.Up(), api.ErrArg)
	has(t, d, "", false)
}

// P6.1, P6.2: while it is down, each call tells that first, and changes nothing.
func TestDown(t *testing.T) {
	full := make([]byte, api.MaxFile)
	crashed := fallen(t, string(full))
	tore := armed(t, string(full), 0)
	tells(t, "a torn Swap", tore.Swap(nil), api.ErrDown)
	for _, d := range []*disk.Disk{crashed, tore} {
		for range 2 {
			for _, b := range [][]byte{nil, {}, []byte("x"), full, make([]byte, api.MaxFile+1)} {
				tells(t, "Append", d.Append(b), api.ErrDown)
				tells(t, "Swap", d.Swap(b), api.ErrDown)
			}
			for _, n := range []int{0, 1, api.MaxFile, api.MaxFile + 1, -1, math.MinInt, math.MaxInt} {
				tells(t, "Cut", d.Cut(n), api.ErrDown)
				tells(t, "Arm", d.Arm(n), api.ErrDown)
			}
			if b, e := d.Bytes(); len(b) != 0 || e != api.ErrDown {
				t.Errorf("Bytes: %d bytes, %d", len(b), e)
			}
			tells(t, "Crash", d.Crash(), api.ErrDown)
		}
		has(t, d, string(full), true)
		tells(t, "Up", d.Up(), api.OK)
		has(t, d, string(full), false)
		tells(t, "Cut", d.Cut(0), api.OK)
		whole(t, d)
	}
}

// R1, P6.1, P6.2: a disk that is not there.
func TestNil(t *testing.T) {
	var d *disk.Disk
	for _, b := range [][]byte{nil, []byte("x"), make([]byte, api.MaxFile+1)} {
		tells(t, "Append", d.Append(b), api.ErrNil)
		tells(t, "Swap", d.Swap(b), api.ErrNil)
	}
	for _, n := range []int{0, 1, -1, math.MinInt, math.MaxInt} {
		tells(t, "Cut", d.Cut(n), api.ErrNil)
		tells(t, "Arm", d.Arm(n), api.ErrNil)
	}
	if b, e := d.Bytes(); len(b) != 0 || e != api.ErrNil {
		t.Errorf("Bytes: %q, %d", b, e)
	}
	tells(t, "Crash", d.Crash(), api.ErrNil)
	tells(t, "Up", d.Up(), api.ErrNil)
	if !d.Down() || d.Len() != 0 || d.Copy() != nil {
		t.Errorf("down: %v, %d bytes, a copy: %v", d.Down(), d.Len(), d.Copy())
	}
}

// The chapter's example.
func TestExample(t *testing.T) {
	d := disk.New()
	tells(t, "Append", d.Append([]byte{1, 2, 3}), api.OK)
	tells(t, "Arm", d.Arm(1), api.OK)
	tells(t, "Append", d.Append([]byte{4, 5}), api.ErrDown)
	has(t, d, "\x01\x02\x03\x04", true)
	tells(t, "Up", d.Up(), api.OK)
	has(t, d, "\x01\x02\x03\x04", false)
}
