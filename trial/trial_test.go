package trial_test

import (
	"bytes"
	"math/bits"
	"slices"
	"strconv"
	"testing"

	"creel/api"
	"creel/disk"
	"creel/trial"
)

func TestMixed(t *testing.T) {
	for _, n := range []int{-1, 0, 1, 2, 500} {
		b := trial.Mixed(n)
		if len(b) != max(n, 0) || !bytes.Equal(b, trial.Mixed(n)) || !bytes.HasPrefix(trial.Mixed(n+3), b) {
			t.Errorf("Mixed of %d: %v", n, b)
		}
	}
	if l := bytes.Count(trial.Mixed(5000), []byte{7}); l == 0 || l > 100 {
		t.Errorf("of 5000 mixed bytes %d are 7", l)
	}
}

func TestTexts(t *testing.T) {
	for _, x := range []struct {
		some string
		size int
		want string
	}{{"ab", -1, ""}, {"ab", 0, ""}, {"", 3, ""}, {"ab", 1, " a b"}, {"ab", 2, " a b aa ab ba bb"}, {"x", 3, " x xx xxx"}} {
		if got := string(bytes.Join(trial.Texts(x.some, x.size), []byte{' '})); got != x.want {
			t.Errorf("up to %d of %q: %q, want %q", x.size, x.some, got, x.want)
		}
	}
	if l := trial.Texts("\x00\xff9", 4); len(l) != 1+3+9+27+81 || !bytes.Equal(l[len(l)-1], []byte("9999")) {
		t.Errorf("%d texts of up to four of three bytes", len(l))
	}
}

func TestPatterns(t *testing.T) {
	for _, some := range []int{0, 1, 5} {
		many := make([]int, api.Burst+1) // by length
		for _, p := range trial.Patterns(some) {
			many[bits.Len32(p)]++
			if p%2 == 0 {
				t.Errorf("the lowest bit of %b is not turned", p)
			}
		}
		for size, n := range many {
			want := some + 2
			if size < 2 {
				want = size
			}
			if n != want {
				t.Errorf("Patterns of %d: %d of %d bits, want %d", some, n, size, want)
			}
		}
	}
}

func TestTurned(t *testing.T) {
	b := []byte{0, 0, 255}
	for _, x := range []struct {
		at      int
		pattern uint32
		want    []byte
	}{
		{0, 1, []byte{1, 0, 255}}, {7, 1, []byte{128, 0, 255}}, {8, 1, []byte{0, 1, 255}}, {7, 3, []byte{128, 1, 255}}, {15, 3, []byte{0, 128, 254}},
		{0, 1<<24 - 1, []byte{255, 255, 0}}, {23, 1, []byte{0, 0, 127}}, {4, 1<<19 | 1, []byte{16, 0, 127}}, {0, 0, b},
		{-1, 1, nil}, {23, 3, nil}, {24, 1, nil}, {1, 1<<24 - 1, nil}, {0, 1 << 24, nil},
	} {
		got, ok := trial.Turned(b, x.at, x.pattern)
		if ok != (x.want != nil) || !bytes.Equal(got, x.want) {
			t.Errorf("bits %b from %d on: %v, %v; want %v", x.pattern, x.at, got, ok, x.want)
		}
	}
	if !bytes.Equal(b, []byte{0, 0, 255}) {
		t.Errorf("what was handed in is %v", b)
	}
}

func TestUndone(t *testing.T) {
	for _, x := range []struct {
		l    []uint32
		want int
	}{
		{nil, -1}, {[]uint32{1}, -1}, {[]uint32{0}, 0}, {[]uint32{1, 2, 4}, -1}, {[]uint32{1, 2, 3}, 2}, {[]uint32{7, 7}, 1}, {[]uint32{1, 3, 2}, 2},
		{[]uint32{3, 5, 1 << 31, 6}, 3}, {[]uint32{3, 5, 7}, -1}, {[]uint32{3, 5, 7, 9, 0}, 4}, {[]uint32{1 << 31, 1<<31 | 1, 1}, 2},
	} {
		if got := trial.Undone(x.l); got != x.want {
			t.Errorf("Undone of %v: %d, want %d", x.l, got, x.want)
		}
	}
}

// told counts what a test is told.
type told struct{ wrong, ends int }

func (t *told) Helper()               {}
func (t *told) Errorf(string, ...any) { t.wrong++ }
func (t *told) Fatalf(string, ...any) { t.ends++ }

func TestDoneAndTells(t *testing.T) {
	var x told
	trial.Done(&x)
	trial.Done(&x, api.OK, api.OK)
	trial.Tells(&x, "the same", api.ErrDown, api.ErrDown)
	if x != (told{}) {
		t.Errorf("%v of what is as it is wanted", x)
	}
	trial.Done(&x, api.OK, api.ErrNone)
	trial.Tells(&x, "another", api.OK, api.ErrDown)
	if x != (told{1, 1}) {
		t.Errorf("%v of what is not", x)
	}
}

func TestFiles(t *testing.T) {
	d := disk.New(9)
	if l := trial.Files(d); len(l) != 0 {
		t.Errorf("%q of none", l)
	}
	trial.Done(t, d.Create("b"), d.Append("b", []byte("12")), d.Create("a"), d.Doom(3))
	if l := trial.Files(d); !slices.Equal(l, []string{"a", "", "b", "12"}) {
		t.Errorf("%q", l)
	}
	trial.Done(t, d.Sync("a"), d.Sync("a"), d.Sync("a")) // nothing was done on it in between
	trial.Tells(t, "one more", d.Sync("a"), api.ErrDown)
	if l := trial.Files(d); len(l) != 0 {
		t.Errorf("%q of one that is down", l)
	}
}

// pair is two disks that are the same, each with the file a, of two bytes, one of which is kept.
func pair(t *testing.T) (*disk.Disk, *disk.Disk) {
	t.Helper()
	d := disk.New(9)
	trial.Done(t, d.Create("a"), d.SyncNames(), d.Append("a", []byte("1")), d.Sync("a"), d.Append("a", []byte("2")))
	return d, d.Clone()
}

func TestBehind(t *testing.T) {
	d, same := pair(t)
	if l := trial.Files(trial.Behind(d, api.Wreck{})); !slices.Equal(l, []string{"a", "1"}) {
		t.Errorf("%q", l)
	}
	if l := trial.Files(trial.Behind(d, api.Wreck{Bytes: []int{1}})); !slices.Equal(l, []string{"a", "12"}) {
		t.Errorf("%q", l)
	}
	trial.Same(t, "behind that", d, same)
}

func TestSame(t *testing.T) {
	var x told
	a, b := pair(t)
	trial.Same(&x, "the same", a, b)
	trial.Done(t, a.Doom(3), b.Doom(3))
	trial.Same(&x, "the same, doomed", a, b)
	trial.Done(t, a.Doom(0), b.Doom(0))
	trial.Tells(t, "one more", a.Sync("a"), api.ErrDown)
	trial.Same(&x, "one that is down, and one that will be", a, b)
	if x != (told{}) {
		t.Errorf("%v of what is the same", x)
	}
	for i, change := range []func(d *disk.Disk) api.Errno{
		func(d *disk.Disk) api.Errno { return d.Sync("a") },
		func(d *disk.Disk) api.Errno { return d.Create("b") },
		func(d *disk.Disk) api.Errno { return d.Append("a", []byte("3")) },
		func(d *disk.Disk) api.Errno { return d.Rename("a", "b") },
		func(d *disk.Disk) api.Errno { return d.Remove("a") },
		func(d *disk.Disk) api.Errno { return d.SyncNames() },
		func(d *disk.Disk) api.Errno { return d.Doom(3) },
		func(d *disk.Disk) api.Errno { return d.Crash(api.Wreck{}) },
	} {
		a, b := pair(t)
		trial.Done(t, a.Create("c"), b.Create("c"), change(a))
		x = told{}
		trial.Same(&x, "another", a, b)
		if x.wrong == 0 || x.ends != 0 {
			t.Errorf("change %d: %v", i, x)
		}
	}
	used, more := disk.New(9), disk.New(9) // a file that has a kept name alone is to be seen by Used, too
	trial.Done(t, used.Create("a"), more.Create("a"), more.Append("a", []byte("1")), used.Remove("a"), more.Remove("a"))
	x = told{}
	trial.Same(&x, "more that is used", more, used)
	if x.wrong == 0 {
		t.Error("more that is used is the same")
	}
}

// making is a call that makes files, one behind the other, till one tells an error.
func making(names ...string) func(d *disk.Disk) api.Errno {
	return func(d *disk.Disk) api.Errno {
		for _, name := range names {
			if code := d.Create(name); code != api.OK {
				return code
			}
		}
		return api.OK
	}
}

func TestAlike(t *testing.T) {
	start, same := pair(t)
	var x told
	for _, names := range [][]string{nil, {"b"}, {"b", "c"}, {"b", "a", "c"}, {"b", "c", "d", "e", "f", "g", "h", "i", "j", "k", "l", "m"}} {
		trial.Alike(&x, "the same", start, making(names...), making(names...))
	}
	if x != (told{}) {
		t.Errorf("%v of what is the same", x)
	}
	for i, c := range [][2]func(d *disk.Disk) api.Errno{
		{making("b"), making("c")}, {making("b", "c"), making("c", "b")}, {making(), making("b")}, {making("b", "a"), making("b")},
		{making("b"), func(d *disk.Disk) api.Errno { d.Create("b"); return api.OK }},
		{making("b"), func(d *disk.Disk) api.Errno { d.Names(); return d.Create("b") }},
		{making("b"), func(d *disk.Disk) api.Errno { code := d.Create("b"); d.Names(); return code }},
		{making("b"), func(d *disk.Disk) api.Errno { d.Create("b"); d.Remove("b"); return d.Create("b") }},
		{making(), func(*disk.Disk) api.Errno { return api.ErrArg }},
	} {
		for _, c := range [][2]func(d *disk.Disk) api.Errno{c, {c[1], c[0]}} {
			x = told{}
			trial.Alike(&x, "another", start, c[0], c[1])
			if x.wrong == 0 || x.ends != 0 {
				t.Errorf("pair %d: %v", i, x)
			}
		}
	}
	trial.Same(t, "behind that", start, same)
}

func TestWhenever(t *testing.T) {
	start, same := pair(t)
	var x told
	var l []string
	trial.Whenever(&x, start, func(d *disk.Disk) api.Errno {
		d.Append("a", []byte("3"))
		return d.Sync("a")
	}, func(code api.Errno, d *disk.Disk) {
		l = append(l, strconv.Itoa(int(code))+" "+trial.Files(d)[1])
	})
	if len(l) != 3*len(trial.Crashes()) || x != (told{}) {
		t.Errorf("%v, and %q", x, l)
	}
	slices.Sort(l)
	if l = slices.Compact(l); !slices.Equal(l, []string{"0 123", "40 1", "40 12", "40 123"}) {
		t.Errorf("%q", l)
	}
	trial.Same(t, "behind that", start, same)
	trial.Whenever(&x, disk.New(0), func(*disk.Disk) api.Errno { return api.ErrArg }, func(api.Errno, *disk.Disk) {})
	if x != (told{wrong: 1}) {
		t.Errorf("%v of what never tells OK", x)
	}
}
