package disk_test

import (
	"testing"

	"hoarding/api"
	"hoarding/disk"
)

// spoil changes all that b has, and the room behind it.
func spoil(b []byte) {
	b = b[:cap(b)]
	for i := range b {
		b[i] = '#'
	}
}

// P6.1, R4: what Bytes answers is new memory each time.
func TestBytesNew(t *testing.T) {
	d := on(t, "abc")
	first, second := held(t, d), held(t, d)
	spoil(first)
	if string(second) != "abc" {
		t.Errorf("what Bytes told ahead was changed: %q", second)
	}
	has(t, d, "abc", false)
	tells(t, "Append", d.Append([]byte("d")), api.OK)
	if string(second) != "abc" {
		t.Errorf("what Bytes told ahead was changed: %q", second)
	}
	spoil(second)
	_ = append(first, "xyz"...)
	has(t, d, "abcd", false)
	tells(t, "Cut", d.Cut(2), api.OK)
	short := held(t, d)
	tells(t, "Append", d.Append([]byte("efgh")), api.OK)
	spoil(short)
	has(t, d, "abefgh", false)
}

// P6.1, R4: what is handed in is neither kept nor changed, nor is what stands behind it.
func TestHandedIn(t *testing.T) {
	calls := map[string]func(*disk.Disk, []byte) api.Errno{"Append": (*disk.Disk).Append, "Swap": (*disk.Disk).Swap}
	for name, call := range calls {
		for _, tear := range []int{-1, 0, 2, 5} {
			d := disk.New()
			want, file := api.OK, "abcd"
			if tear >= 0 {
				tells(t, "Arm", d.Arm(tear), api.OK)
				want, file = api.ErrDown, file[:min(tear, 4)]
				if name == "Swap" {
					file = ""
				}
			}
			roomy := []byte("abcdroom")
			tells(t, name, call(d, roomy[:4]), want)
			if tear >= 0 {
				tells(t, "Up", d.Up(), api.OK)
			}
			has(t, d, file, false)
			tells(t, "Append", d.Append([]byte("XYZ")), api.OK)
			if string(roomy) != "abcdroom" {
				t.Errorf("%s, armed with %d: what was handed in is %q", name, tear, roomy)
			}
			spoil(roomy)
			has(t, d, file+"XYZ", false)
		}
	}
}

// R4: a disk keeps nothing of what it answered ahead.
func TestRoundabout(t *testing.T) {
	d := on(t, "abcd")
	b := held(t, d)
	tells(t, "Swap for its own bytes", d.Swap(b), api.OK)
	tells(t, "Append of its own bytes", d.Append(b), api.OK)
	spoil(b)
	has(t, d, "abcdabcd", false)
}

// P6.2: a copy is alike in all.
func TestCopy(t *testing.T) {
	has(t, disk.New().Copy(), "", false)
	has(t, on(t, "abc").Copy(), "abc", false)
	whole(t, on(t, "abc").Copy())
	for n := range 4 {
		has(t, armed(t, "abc", n).Copy(), "abc", false)
		torn(t, armed(t, "abc", n).Copy(), n)
		torn(t, armed(t, "abc", n).Copy().Copy(), n)
	}
	has(t, fallen(t, "abc").Copy(), "abc", true)
	d := fallen(t, "abc").Copy()
	tells(t, "Append", d.Append(nil), api.ErrDown)
	again(t, d, "abc")
}

// P6.2: a copy goes its own way, and leaves the other its own.
func TestCopyApart(t *testing.T) {
	ways := map[string]func(*disk.Disk){
		"Append": func(d *disk.Disk) { d.Append([]byte("12")) },
		"Swap":   func(d *disk.Disk) { d.Swap([]byte("12")) },
		"Cut":    func(d *disk.Disk) { d.Cut(1) },
		"torn":   func(d *disk.Disk) { d.Arm(1); d.Append([]byte("12")) },
		"Crash":  func(d *disk.Disk) { d.Crash() },
		"Up":     func(d *disk.Disk) { d.Up() },
		"many": func(d *disk.Disk) {
			d.Up()
			d.Cut(1)
			d.Up()
			d.Append([]byte("1"))
			d.Append([]byte("2"))
			d.Arm(3)
		},
	}
	for name, way := range ways {
		t.Run(name, func(t *testing.T) {
			for _, both := range []func(a, b *disk.Disk) (*disk.Disk, *disk.Disk){
				func(a, b *disk.Disk) (*disk.Disk, *disk.Disk) { return a, b },
				func(a, b *disk.Disk) (*disk.Disk, *disk.Disk) { return b, a },
			} {
				d := on(t, "ab")
				tells(t, "Append", d.Append([]byte("c")), api.OK)
				goes, stays := both(d, d.Copy())
				way(goes)
				has(t, stays, "abc", false)
				whole(t, stays)

				d = armed(t, "abc", 2)
				goes, stays = both(d, d.Copy())
				way(goes)
				has(t, stays, "abc", false)
				torn(t, stays, 2)

				d = fallen(t, "abc")
				goes, stays = both(d, d.Copy())
				way(goes)
				has(t, stays, "abc", true)
				again(t, stays, "abc")
			}
		})
	}
	d := on(t, "abc")
	c := d.Copy()
	tells(t, "Append", c.Append([]byte("c")), api.OK)
	tells(t, "Append", d.Append([]byte("d")), api.OK)
	tells(t, "Crash", c.Crash(), api.OK)
	has(t, d, "abcd", false)
	has(t, c, "abcc", true)
}
