package disk_test

import (
	"strings"
	"testing"

	"hoarding/api"
	"hoarding/disk"
)

// told is a disk by the chapter's words alone; it is armed with tear, or not: -1.
type told struct {
	file string
	down bool
	tear int
}

// act is a call, and what the chapter says of it: the disk behind it, and what it answers.
type act struct {
	name string
	call func(*disk.Disk) api.Errno
	want func(told) (told, api.Errno)
	cuts bool // it is a Swap or a Cut, which need not leave the file's beginning
}

// ifUp is what the chapter says of a call that tells first whether the disk is down.
func ifUp(want func(told) (told, api.Errno)) func(told) (told, api.Errno) {
	return func(m told) (told, api.Errno) {
		if m.down {
			return m, api.ErrDown
		}
		return want(m)
	}
}

// wrote answers m with the file, or, if it is armed, torn, with what is left.
func wrote(m told, file, left string) (told, api.Errno) {
	if m.tear >= 0 {
		return told{left, true, -1}, api.ErrDown
	}
	return told{file, false, -1}, api.OK
}

func appends(b string) act {
	return act{name: "Append " + b, call: func(d *disk.Disk) api.Errno { return d.Append([]byte(b)) }, want: ifUp(func(m told) (told, api.Errno) {
		left := m.file
		for i := range len(b) {
			if i < m.tear {
				left += b[i : i+1]
			}
		}
		return wrote(m, m.file+b, left)
	})}
}

func swaps(b string) act {
	return act{name: "Swap " + b, cuts: true, call: func(d *disk.Disk) api.Errno { return d.Swap([]byte(b)) }, want: ifUp(func(m told) (told, api.Errno) {
		return wrote(m, b, m.file)
	})}
}

func cuts(n int) act {
	return act{name: "Cut", cuts: true, call: func(d *disk.Disk) api.Errno { return d.Cut(n) }, want: ifUp(func(m told) (told, api.Errno) {
		if n < 0 || len(m.file) < n {
			return m, api.ErrArg
		}
		return wrote(m, m.file[:n], m.file)
	})}
}

func arms(n int) act {
	return act{name: "Arm", call: func(d *disk.Disk) api.Errno { return d.Arm(n) }, want: ifUp(func(m told) (told, api.Errno) {
		if n < 0 {
			return m, api.ErrArg
		}
		return told{m.file, false, n}, api.OK
	})}
}

// refused answers acts of more bytes than may be.
func refused(name string, call func(*disk.Disk, []byte) api.Errno) act {
	long := make([]byte, api.MaxFile+1)
	return act{name: "a long " + name, call: func(d *disk.Disk) api.Errno { return call(d, long) }, want: ifUp(func(m told) (told, api.Errno) {
		return m, api.ErrLong
	})}
}

func acts() []act {
	as := []act{
		{name: "Crash", call: (*disk.Disk).Crash, want: ifUp(func(m told) (told, api.Errno) { return told{m.file, true, -1}, api.OK })},
		{name: "Up", call: (*disk.Disk).Up, want: func(m told) (told, api.Errno) {
			if !m.down {
				return m, api.ErrArg
			}
			return told{m.file, false, -1}, api.OK
		}},
		refused("Append", (*disk.Disk).Append), refused("Swap", (*disk.Disk).Swap),
		appends(""), appends("a"), appends("bcd"), swaps(""), swaps("ef"),
	}
	for _, n := range []int{-1, 0, 1, 3} {
		as = append(as, cuts(n), arms(n))
	}
	return as
}

// is tells whether d is as m has it, as far as it can be seen.
func is(d *disk.Disk, m told) bool {
	b, e := d.Bytes()
	if d.Down() != m.down || d.Len() != len(m.file) {
		return false
	}
	if m.down {
		return len(b) == 0 && e == api.ErrDown
	}
	return string(b) == m.file && e == api.OK
}

// revived answers the file of d, seen behind a crash.
func revived(d *disk.Disk) string {
	c := d.Copy()
	c.Crash()
	c.Up()
	b, _ := c.Bytes()
	return string(b)
}

// steps goes over all rows of at most deep acts behind a disk d, which is as m has it, each on a copy of its own; path tells what was done.
func steps(t *testing.T, as []act, deep int, d *disk.Disk, m told, path ...string) {
	if deep == 0 {
		return
	}
	for _, a := range as {
		c := d.Copy()
		e := a.call(c)
		next, want := a.want(m)
		done := append(path, a.name)
		if e != want || !is(c, next) {
			t.Fatalf("%q: %d, %q, down: %v; not %d, %v", done, e, revived(c), c.Down(), want, next)
		}
		stands(t, a, e, m.file, revived(c), done)
		steps(t, as, deep-1, c, next, done...)
		if !is(d, m) {
			t.Fatalf("%q changed what it was a copy of", done)
		}
	}
}

// stands is P6.3, asked without the chapter's other words: what became of the file, as it is seen behind a crash.
func stands(t *testing.T, a act, e api.Errno, was, file string, done []string) {
	t.Helper()
	if a.cuts {
		if e != api.OK && file != was {
			t.Fatalf("%q: %q, behind %q", done, file, was)
		}
		return
	}
	more, grows := strings.CutPrefix(file, was)
	b, isAppend := strings.CutPrefix(a.name, "Append ")
	switch {
	case !grows, !isAppend && more != "", !strings.HasPrefix(b, more), isAppend && e == api.OK && more != b:
		t.Fatalf("%q: %q, behind %q", done, file, was)
	}
}

// P6.1, P6.2, P6.3: all rows of up to five acts.
func TestAll(t *testing.T) {
	as := acts()
	steps(t, as, 5, disk.New(), told{tear: -1})
	steps(t, as, 3, on(t, "start"), told{file: "start", tear: -1})
}

// P6.1, P6.2: a long row of acts on one disk, never copied.
func TestLongRow(t *testing.T) {
	as := acts()
	d, m := disk.New(), told{tear: -1}
	pick := uint32(1)
	for i := range 200000 {
		pick = pick*1664525 + 1013904223
		a := as[int(pick>>16)%len(as)]
		e := a.call(d)
		next, want := a.want(m)
		if e != want || !is(d, next) {
			t.Fatalf("act %d, %s: %d, down: %v; not %d, %v", i, a.name, e, d.Down(), want, next)
		}
		m = next
	}
}
