package trial_test

import (
	"bytes"
	"math/bits"
	"slices"
	"testing"

	"creel/api"
	"creel/disk"
	"creel/trial"
)

func TestMixed(t *testing.T) {
	for _, n := range []int{-1, 0, 1, 2, 500} {
		b := trial.Mixed(n)
		if len(b) != max(n, 0) || !bytes.Equal(b, trial.Mixed(n)) || !bytes.HasPrefix(trial.Mixed(n+3), b) {
			t.Errorf("Mixed of %d: %v", n, b)
		}
	}
	if l := bytes.Count(trial.Mixed(5000), []byte{7}); l == 0 || l > 100 {
		t.Errorf("of 5000 mixed bytes %d are 7", l)
	}
}

func TestPatterns(t *testing.T) {
	for _, some := range []int{0, 1, 5} {
		many := make([]int, api.Burst+1) // by length
		for _, p := range trial.Patterns(some) {
			many[bits.Len32(p)]++
			if p%2 == 0 {
				t.Errorf("the lowest bit of %b is not turned", p)
			}
		}
		for size, n := range many {
			want := some + 2
			if size < 2 {
				want = size
			}
			if n != want {
				t.Errorf("Patterns of %d: %d of %d bits, want %d", some, n, size, want)
			}
		}
	}
}

func TestTurned(t *testing.T) {
	b := []byte{0, 0, 255}
	for _, x := range []struct {
		at      int
		pattern uint32
		want    []byte
	}{
		{0, 1, []byte{1, 0, 255}}, {7, 1, []byte{128, 0, 255}}, {8, 1, []byte{0, 1, 255}}, {7, 3, []byte{128, 1, 255}}, {15, 3, []byte{0, 128, 254}},
		{0, 1<<24 - 1, []byte{255, 255, 0}}, {23, 1, []byte{0, 0, 127}}, {4, 1<<19 | 1, []byte{16, 0, 127}}, {0, 0, b},
		{-1, 1, nil}, {23, 3, nil}, {24, 1, nil}, {1, 1<<24 - 1, nil}, {0, 1 << 24, nil},
	} {
		got, ok := trial.Turned(b, x.at, x.pattern)
		if ok != (x.want != nil) || !bytes.Equal(got, x.want) {
			t.Errorf("bits %b from %d on: %v, %v; want %v", x.pattern, x.at, got, ok, x.want)
		}
	}
	if !bytes.Equal(b, []byte{0, 0, 255}) {
		t.Errorf("what was handed in is %v", b)
	}
}

func TestUndone(t *testing.T) {
	for _, x := range []struct {
		l    []uint32
		want int
	}{
		{nil, -1}, {[]uint32{1}, -1}, {[]uint32{0}, 0}, {[]uint32{1, 2, 4}, -1}, {[]uint32{1, 2, 3}, 2}, {[]uint32{7, 7}, 1}, {[]uint32{1, 3, 2}, 2},
		{[]uint32{3, 5, 1 << 31, 6}, 3}, {[]uint32{3, 5, 7}, -1}, {[]uint32{3, 5, 7, 9, 0}, 4}, {[]uint32{1 << 31, 1<<31 | 1, 1}, 2},
	} {
		if got := trial.Undone(x.l); got != x.want {
			t.Errorf("Undone of %v: %d, want %d", x.l, got, x.want)
		}
	}
}

// told counts what a test is told.
type told struct{ wrong, ends int }

func (t *told) Helper()               {}
func (t *told) Errorf(string, ...any) { t.wrong++ }
func (t *told) Fatalf(string, ...any) { t.ends++ }

func TestDoneAndTells(t *testing.T) {
	var x told
	trial.Done(&x)
	trial.Done(&x, api.OK, api.OK)
	trial.Tells(&x, "the same", api.ErrDown, api.ErrDown)
	if x != (told{}) {
		t.Errorf("%v of what is as it is wanted", x)
	}
	trial.Done(&x, api.OK, api.ErrNone)
	trial.Tells(&x, "another", api.OK, api.ErrDown)
	if x != (told{1, 1}) {
		t.Errorf("%v of what is not", x)
	}
}

func TestFiles(t *testing.T) {
	d := disk.New(9)
	if l := trial.Files(d); len(l) != 0 {
		t.Errorf("%q of none", l)
	}
	trial.Done(t, d.Create("b"), d.Append("b", []byte("12")), d.Create("a"), d.Doom(3))
	if l := trial.Files(d); !slices.Equal(l, []string{"a", "", "b", "12"}) {
		t.Errorf("%q", l)
	}
	trial.Done(t, d.Sync("a"), d.Sync("a"), d.Sync("a")) // nothing was done on it in between
	trial.Tells(t, "one more", d.Sync("a"), api.ErrDown)
	if l := trial.Files(d); len(l) != 0 {
		t.Errorf("%q of one that is down", l)
	}
}
