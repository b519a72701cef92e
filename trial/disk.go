package trial

import (
	"creel/api"
	"creel/disk"
)

// T is a test, which is told what is wrong.
type T interface {
	Helper()
	Errorf(format string, args ...any)
	Fatalf(format string, args ...any)
}

// Done ends the test, if one of things that are done, one behind the other, did not tell OK.
func Done(t T, codes ...api.Errno) {
	t.Helper()
	for i, e := range codes {
		if e != api.OK {
			t.Fatalf("thing %d (from 0 on): error %d", i, e)
		}
	}
}

// Tells fails the test, if a call told another number than the one that is wanted.
func Tells(t T, what string, got, want api.Errno) {
	t.Helper()
	if got != want {
		t.Errorf("%s: error %d, want %d", what, got, want)
	}
}

// Files is all files of a disk, by rising names: a name, then its bytes; none, if it is down.
func Files(d *disk.Disk) []string {
	c := d.Clone() // so that what is asked for here is no thing done on d
	names, _ := c.Names()
	var l []string
	for _, name := range names {
		b, _ := c.Read(name)
		l = append(l, name, string(b))
	}
	return l
}
