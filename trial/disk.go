package trial

import (
	"math"
	"slices"

	"creel/api"
	"creel/disk"
)

const most = 1 << 12 // things that a call does, in any test

// T is a test, which is told what is wrong.
type T interface {
	Helper()
	Errorf(format string, args ...any)
	Fatalf(format string, args ...any)
}

// Done ends the test, if one of things that are done, one behind the other, did not tell OK.
func Done(t T, codes ...api.Errno) {
	t.Helper()
	for i, e := range codes {
		if e != api.OK {
			t.Fatalf("thing %d (from 0 on): error %d", i, e)
		}
	}
}

// Tells fails the test, if a call told another number than the one that is wanted.
func Tells(t T, what string, got, want api.Errno) {
	t.Helper()
	if got != want {
		t.Errorf("%s: error %d, want %d", what, got, want)
	}
}

// Files is all files of a disk, by rising names: a name, then its bytes; none, if it is down.
func Files(d *disk.Disk) []string {
	c := d.Clone() // so that what is asked for here is no thing done on d
	names, _ := c.Names()
	var l []string
	for _, name := range names {
		b, _ := c.Read(name)
		l = append(l, name, string(b))
	}
	return l
}

// Crashes are what may be left of a disk.
func Crashes() []api.Wreck {
	var l []api.Wreck
	for _, n := range []int{0, 1, 2, 3, 4, math.MaxInt} {
		for _, left := range [][]int{nil, {1}, {0, 2}, {math.MaxInt}} {
			l = append(l, api.Wreck{Names: n, Bytes: left})
		}
	}
	return l
}

// Behind is a disk that is the same, behind a crash.
func Behind(d *disk.Disk, w api.Wreck) *disk.Disk {
	c := d.Clone()
	c.Crash(w)
	return c
}

// Same fails the test, if two disks are not the same, as they are, or behind a crash.
func Same(t T, what string, got, want *disk.Disk) {
	t.Helper()
	if got.Used() != want.Used() {
		t.Errorf("%s: %d used, want %d", what, got.Used(), want.Used())
	}
	if g, w := left(got), left(want); g != w {
		t.Errorf("%s: %d things left to be done, want %d", what, g, w)
	}
	if g, w := Files(got), Files(want); !slices.Equal(g, w) {
		t.Errorf("%s: %q, want %q", what, g, w)
	}
	for _, w := range Crashes() {
		if g, x := Files(Behind(got, w)), Files(Behind(want, w)); !slices.Equal(g, x) {
			t.Errorf("%s, crash %v: %q, want %q", what, w, g, x)
		}
	}
}

// Alike fails the test, if one of two calls does other things on a disk than the other, or more, or in another order, or tells something else, wherever the disk goes down.
func Alike(t T, what string, start *disk.Disk, got, want func(d *disk.Disk) api.Errno) {
	t.Helper()
	g, w := start.Clone(), start.Clone()
	Tells(t, what, got(g), want(w))
	Same(t, what, g, w)
	for n := range most {
		g, w := start.Clone(), start.Clone()
		Done(t, g.Doom(n), w.Doom(n))
		Tells(t, what+" of a doomed disk", got(g), want(w))
		Same(t, what+" of a doomed disk", g, w)
		if left(w) > 0 {
			return
		}
	}
	t.Errorf("%s: it does not end", what)
}

// Whenever makes a call on a disk that goes down behind each number of things, till the call tells OK, and hands on what it tells, and the disk behind each crash then.
func Whenever(t T, start *disk.Disk, call func(d *disk.Disk) api.Errno, told func(code api.Errno, d *disk.Disk)) {
	t.Helper()
	for n := range most {
		d := start.Clone()
		Done(t, d.Doom(n))
		code := call(d)
		for _, w := range Crashes() {
			told(code, Behind(d, w))
		}
		if code == api.OK {
			return
		}
	}
	t.Errorf("it does not end")
}

// left is how many more things are done on a disk till it is down; at most a few.
func left(d *disk.Disk) int {
	c := d.Clone()
	n := 0
	for n < 9 && c.SyncNames() == api.OK {
		n++
	}
	return n
}
