package disk_test

import (
	"bytes"
	"math"
	"slices"
	"strings"
	"testing"

	"creel/api"
	"creel/disk"
	"creel/trial"
)

// holds fails the test, if a disk has other files than these: a name, then its bytes, and so on, by rising names.
func holds(t *testing.T, what string, d *disk.Disk, want ...string) {
	t.Helper()
	c := d.Clone() // so that what is asked for here is no thing done on d
	l, e := c.Names()
	if e != api.OK {
		t.Errorf("%s: names: error %d", what, e)
	}
	var got []string
	for _, name := range l {
		b, e := c.Read(name)
		if e != api.OK {
			t.Errorf("%s: %q: error %d", what, name, e)
		}
		got = append(got, name, string(b))
	}
	if !slices.Equal(got, want) {
		t.Errorf("%s: %q, want %q", what, got, want)
	}
}

// things are all things that are done, each upon the file a, which is there, or upon b, which is not.
func things() map[string]func(d *disk.Disk) api.Errno {
	return map[string]func(d *disk.Disk) api.Errno{
		"create":    func(d *disk.Disk) api.Errno { return d.Create("b") },
		"append":    func(d *disk.Disk) api.Errno { return d.Append("a", []byte("4")) },
		"read":      func(d *disk.Disk) api.Errno { _, e := d.Read("a"); return e },
		"sync":      func(d *disk.Disk) api.Errno { return d.Sync("a") },
		"rename":    func(d *disk.Disk) api.Errno { return d.Rename("a", "b") },
		"remove":    func(d *disk.Disk) api.Errno { return d.Remove("a") },
		"syncnames": func(d *disk.Disk) api.Errno { return d.SyncNames() },
		"names":     func(d *disk.Disk) api.Errno { _, e := d.Names(); return e },
	}
}

// faults are things that are done, and tell an error other than ErrDown, of a disk that has the file a and no more room.
func faults() map[api.Errno][]func(d *disk.Disk) api.Errno {
	return map[api.Errno][]func(d *disk.Disk) api.Errno{
		api.ErrArg: {
			func(d *disk.Disk) api.Errno { return d.Create("") },
			func(d *disk.Disk) api.Errno { return d.Create(strings.Repeat("n", api.MaxName+1)) },
			func(d *disk.Disk) api.Errno { return d.Rename("a", "") },
			func(d *disk.Disk) api.Errno { return d.Rename("a", strings.Repeat("n", api.MaxName+1)) },
		},
		api.ErrThere: {func(d *disk.Disk) api.Errno { return d.Create("a") }},
		api.ErrFull:  {func(d *disk.Disk) api.Errno { return d.Append("a", []byte("4")) }},
		api.ErrNone: {
			func(d *disk.Disk) api.Errno { return d.Append("b", nil) },
			func(d *disk.Disk) api.Errno { return d.Append("b", make([]byte, 99)) },
			func(d *disk.Disk) api.Errno { return d.Append("", nil) },
			func(d *disk.Disk) api.Errno { _, e := d.Read("b"); return e },
			func(d *disk.Disk) api.Errno { return d.Sync("b") },
			func(d *disk.Disk) api.Errno { return d.Rename("b", "c") },
			func(d *disk.Disk) api.Errno { return d.Rename("b", "b") },
			func(d *disk.Disk) api.Errno { return d.Rename("b", "") },
			func(d *disk.Disk) api.Errno { return d.Remove("b") },
			func(d *disk.Disk) api.Errno { return d.Remove("") },
		},
	}
}

// one is a disk of so much room, on which there is a file a of 123, its name and two of its bytes kept.
func one(t *testing.T, room int) *disk.Disk {
	t.Helper()
	d := disk.New(room)
	trial.Done(t, d.Create("a"), d.Append("a", []byte("12")), d.Sync("a"), d.SyncNames(), d.Append("a", []byte("3")))
	return d
}

func TestThingsTellFaults(t *testing.T) { // P4.1
	for want, l := range faults() {
		for i, f := range l {
			d := one(t, 3)
			if e := f(d); e != want {
				t.Errorf("%d of those of error %d: error %d", i, want, e)
			}
			holds(t, "behind an error", d, "a", "123")
			d.Crash(api.Wreck{Names: 9, Bytes: []int{9}})
			holds(t, "behind an error and a crash", d, "a", "123")
			if d.Used() != 3 {
				t.Errorf("behind error %d: %d used", want, d.Used())
			}
		}
	}
}

func TestNothingBesideAnError(t *testing.T) { // rule 2
	d := one(t, 3)
	if b, e := d.Read("b"); len(b) != 0 || e != api.ErrNone {
		t.Error(b, e)
	}
	d.Doom(0)
	if l, e := d.Names(); len(l) != 0 || e != api.ErrDown {
		t.Error(l, e)
	}
	if b, e := d.Read("a"); len(b) != 0 || e != api.ErrDown {
		t.Error(b, e)
	}
}

func TestNamesAreOfSoManyBytes(t *testing.T) { // P4.1
	most := strings.Repeat("n", api.MaxName)
	wide := strings.Repeat("é", api.MaxName/2) // bytes are told, not letters
	for _, name := range []string{"x", " ", "\x00", "\xff\xfe", "a/b", ".", most, wide} {
		d := disk.New(9)
		trial.Done(t, d.Create(name))
		trial.Tells(t, "a name that is there", d.Create(name), api.ErrThere)
		trial.Done(t, d.Append(name, []byte("1")), d.Rename(name, "to"), d.Rename("to", name), d.Sync(name), d.SyncNames())
		holds(t, "one name", d, name, "1")
		trial.Done(t, d.Remove(name))
		holds(t, "none", d)
	}
	for _, name := range []string{"", most + "n", wide + "n", strings.Repeat("é", api.MaxName/2+1)} {
		d := one(t, 9)
		trial.Tells(t, "create of no name", d.Create(name), api.ErrArg)
		trial.Tells(t, "rename to no name", d.Rename("a", name), api.ErrArg)
		trial.Tells(t, "rename from no name", d.Rename(name, "b"), api.ErrNone)
	}
}

func TestNamesRise(t *testing.T) { // P4.1
	d := disk.New(9)
	for _, name := range []string{"b", "ab", "a", "é", "\xff", "B", "aa", "\x00", "a\x00"} {
		trial.Done(t, d.Create(name))
	}
	want := []string{"\x00", "B", "a", "a\x00", "aa", "ab", "b", "é", "\xff"}
	l, e := d.Names()
	if !slices.Equal(l, want) || e != api.OK {
		t.Errorf("%q, error %d", l, e)
	}
	l[0] = "x"
	if m, _ := d.Names(); !slices.Equal(m, want) {
		t.Errorf("%q behind a change of what was told", m)
	}
	if l, e := disk.New(9).Names(); len(l) != 0 || e != api.OK {
		t.Errorf("of a new disk: %q, error %d", l, e)
	}
}

func TestAppendAndRead(t *testing.T) { // P4.1
	d := disk.New(20)
	trial.Done(t, d.Create("a"), d.Create("b"))
	holds(t, "no bytes", d, "a", "", "b", "")
	b := []byte("12345")
	trial.Done(t, d.Append("a", b[:3]), d.Append("b", b), d.Append("a", nil), d.Append("a", b[3:]))
	if string(b) != "12345" {
		t.Errorf("what was handed in is %q", b)
	}
	clear(b)
	holds(t, "what was handed in is kept by nobody", d, "a", "12345", "b", "12345")
	r, e := d.Read("a")
	if string(r) != "12345" || e != api.OK {
		t.Error(r, e)
	}
	clear(r)
	_ = append(r, 9)
	holds(t, "what was told is the caller's", d, "a", "12345", "b", "12345")
	trial.Done(t, d.Append("a", []byte("6")))
	r, _ = d.Read("a")
	trial.Done(t, d.Append("a", []byte("7")))
	if string(r) != "123456" {
		t.Errorf("what was told is %q behind an append", r)
	}
}

func TestAppendBesideRoom(t *testing.T) { // P4.1, rule 4: the room behind a list's length stays
	list := []byte("12345")
	d := disk.New(20)
	trial.Done(t, d.Create("a"), d.Append("a", list[:2]), d.Append("a", []byte("x")))
	holds(t, "two bytes of five", d, "a", "12x")
	if string(list) != "12345" {
		t.Errorf("%q", list)
	}
}

func TestFull(t *testing.T) { // P4.1, P4.2
	for _, room := range []int{math.MinInt, -1, 0, 1, 5, math.MaxInt} {
		d := disk.New(room)
		trial.Done(t, d.Create("a"), d.Append("a", nil))
		for i := range 7 {
			want := api.OK
			if i >= room {
				want = api.ErrFull
			}
			trial.Tells(t, "a byte more", d.Append("a", []byte{1}), want)
			if d.Used() != min(i+1, max(room, 0)) {
				t.Errorf("room %d: %d used behind %d", room, d.Used(), i+1)
			}
		}
	}
	d := disk.New(9)
	trial.Done(t, d.Create("a"), d.Create("b"), d.Append("a", make([]byte, 4)), d.Append("b", make([]byte, 4)))
	trial.Tells(t, "two more", d.Append("a", make([]byte, 2)), api.ErrFull)
	trial.Done(t, d.Append("b", make([]byte, 1)))
	trial.Tells(t, "one more", d.Append("a", make([]byte, 1)), api.ErrFull)
}

func TestGrow(t *testing.T) { // P4.2
	d := one(t, 3)
	trial.Tells(t, "below 0", d.Grow(-1), api.ErrArg)
	trial.Tells(t, "far below 0", d.Grow(math.MinInt), api.ErrArg)
	trial.Tells(t, "room as ahead", d.Append("a", []byte("4")), api.ErrFull)
	trial.Done(t, d.Grow(4), d.Append("a", []byte("4")), d.Grow(0))
	trial.Tells(t, "less room than there is used", d.Append("a", nil), api.ErrFull)
	holds(t, "less room than there is used", d, "a", "1234")
	trial.Done(t, d.Sync("a"), d.Create("b"), d.Rename("b", "c"), d.SyncNames(), d.Grow(4), d.Append("c", nil))
	d.Doom(0)
	trial.Tells(t, "down", d.Sync("a"), api.ErrDown)
	trial.Done(t, d.Grow(5), d.Crash(api.Wreck{}))
	trial.Done(t, d.Append("c", []byte("5")))
	trial.Tells(t, "full", d.Append("c", []byte("6")), api.ErrFull)
}

func TestRename(t *testing.T) { // P4.1
	d := one(t, 9)
	trial.Done(t, d.Create("b"), d.Append("b", []byte("xy")), d.Rename("b", "c"))
	holds(t, "a new name", d, "a", "123", "c", "xy")
	trial.Tells(t, "from a name that is no more", d.Rename("b", "c"), api.ErrNone)
	trial.Done(t, d.Rename("c", "a"))
	holds(t, "a name that another had", d, "a", "xy")
	trial.Done(t, d.Rename("a", "a"))
	holds(t, "its own name", d, "a", "xy")
	trial.Done(t, d.Create("c"), d.Rename("a", "b"), d.Append("b", []byte("z")), d.Create("a"))
	holds(t, "names that are free again", d, "a", "", "b", "xyz", "c", "")
}

func TestRemove(t *testing.T) { // P4.1
	d := one(t, 9)
	trial.Done(t, d.Remove("a"))
	holds(t, "none", d)
	trial.Tells(t, "remove", d.Remove("a"), api.ErrNone)
	trial.Tells(t, "append", d.Append("a", nil), api.ErrNone)
	trial.Done(t, d.Create("a"))
	holds(t, "another of that name", d, "a", "")
}

func TestUsed(t *testing.T) { // P4.2: of a file that has a name, or a kept one, or had one behind a change that is not kept
	d := disk.New(100)
	at := func(what string, want int) {
		t.Helper()
		if d.Used() != want {
			t.Errorf("%s: %d used, want %d", what, d.Used(), want)
		}
	}
	at("a new one", 0)
	trial.Done(t, d.Create("a"), d.Append("a", make([]byte, 7)))
	at("a name", 7)
	trial.Done(t, d.Remove("a"))
	at("a name behind a change", 7)
	trial.Done(t, d.SyncNames())
	at("no name", 0)
	trial.Done(t, d.Create("a"), d.Append("a", make([]byte, 7)), d.SyncNames(), d.Append("a", make([]byte, 1)))
	at("a name and a kept name", 8)
	trial.Done(t, d.Rename("a", "b"), d.Rename("b", "b"))
	at("names behind changes", 8)
	trial.Done(t, d.Create("a"), d.Append("a", make([]byte, 20)), d.Rename("a", "b"))
	at("a kept name, and a name", 28)
	trial.Done(t, d.Create("c"), d.Append("c", make([]byte, 30)), d.Rename("c", "b"))
	at("a kept name, a name behind a change, and a name", 58)
	c := d.Clone()
	trial.Done(t, d.SyncNames())
	at("one that is left", 30)
	d = c
	at("a clone", 58)
	d.Doom(0)
	trial.Tells(t, "down", d.SyncNames(), api.ErrDown)
	at("down", 58)
	trial.Done(t, d.Crash(api.Wreck{Names: 3, Bytes: []int{5, 2}})) // a to b, b to b, a again
	holds(t, "crash", d, "a", "\x00\x00\x00\x00\x00", "b", "\x00\x00")
	at("crash", 7)
}

func TestDoom(t *testing.T) { // P4.1, P4.2
	for name, thing := range things() {
		for n := range 4 {
			d := one(t, 9)
			trial.Done(t, d.Doom(n))
			for range n {
				trial.Done(t, d.Sync("a"))
			}
			d.Used()
			trial.Done(t, d.Grow(8))
			for range 3 {
				if e := thing(d); e != api.ErrDown {
					t.Errorf("%s behind %d: error %d", name, n, e)
				}
			}
			trial.Done(t, d.Doom(5), d.Grow(9))
			trial.Tells(t, name+" of one that is down", thing(d), api.ErrDown)
			trial.Tells(t, name+" of a clone of one that is down", thing(d.Clone()), api.ErrDown)
			trial.Done(t, d.Crash(api.Wreck{Names: 9, Bytes: []int{9}}))
			holds(t, name+" was not done", d, "a", "123")
			for range 7 { // neither down nor doomed
				trial.Done(t, d.Sync("a"))
			}
			trial.Done(t, thing(d))
		}
	}
}

func TestDoomCountsThings(t *testing.T) { // P4.1: each thing is one less, whatever it tells
	left := func(what string, d *disk.Disk) {
		t.Helper()
		trial.Tells(t, what+": the one that is left", d.Sync("a"), api.OK)
		trial.Tells(t, what+": the next one", d.Sync("a"), api.ErrDown)
	}
	for name, thing := range things() {
		if name == "rename" || name == "remove" { // then there is no a to sync
			continue
		}
		d := one(t, 9)
		trial.Done(t, d.Doom(2), thing(d))
		left(name, d)
	}
	for want, l := range faults() {
		for i, f := range l {
			d := one(t, 3)
			trial.Done(t, d.Doom(2))
			if e := f(d); e != want {
				t.Errorf("%d of those of error %d: error %d", i, want, e)
			}
			left("a fault", d)
		}
	}
	d := one(t, 9)
	trial.Done(t, d.Doom(2), d.Rename("a", "b"), d.Remove("b"))
	_, e := d.Names()
	trial.Tells(t, "behind rename and remove", e, api.ErrDown)
}

func TestDoomAgain(t *testing.T) { // P4.2
	d := one(t, 9)
	trial.Done(t, d.Doom(9), d.Sync("a"), d.Doom(1), d.Sync("a"))
	trial.Tells(t, "below 0", d.Doom(-1), api.ErrArg)
	trial.Tells(t, "far below 0", d.Doom(math.MinInt), api.ErrArg)
	trial.Done(t, d.Doom(1), d.Sync("a"))
	trial.Tells(t, "doomed to none", d.Sync("a"), api.ErrDown)
	d = one(t, 9)
	trial.Done(t, d.Doom(math.MaxInt), d.Sync("a"), d.Doom(0))
	trial.Tells(t, "below 0", d.Doom(-1), api.ErrArg)
	trial.Done(t, d.Crash(api.Wreck{}), d.Sync("a"))
}

func TestCrashLeavesNames(t *testing.T) { // P4.2
	made := one(t, 99)
	trial.Done(t, made.Create("b"), made.Append("b", []byte("45")), made.Sync("b"), made.Rename("b", "c"), made.Rename("c", "c"), made.Remove("a"), made.Create("a"), made.Rename("c", "a"))
	for n, want := range [][]string{
		{"a", "12"},
		{"a", "12", "b", "45"},
		{"a", "12", "c", "45"},
		{"a", "12", "c", "45"},
		{"c", "45"},
		{"a", "", "c", "45"},
		{"a", "45"},
	} {
		d := made.Clone()
		trial.Done(t, d.Crash(api.Wreck{Names: n}))
		holds(t, "names", d, want...)
		trial.Done(t, d.Crash(api.Wreck{Names: 9})) // no change is left
		holds(t, "names behind another crash", d, want...)
	}
	for _, n := range []int{-1, math.MinInt} {
		d := made.Clone()
		trial.Done(t, d.Crash(api.Wreck{Names: n}))
		holds(t, "no change", d, "a", "12")
	}
	for _, n := range []int{7, math.MaxInt} {
		d := made.Clone()
		trial.Done(t, d.Crash(api.Wreck{Names: n}))
		holds(t, "all changes", d, "a", "45")
	}
	trial.Done(t, made.SyncNames(), made.Crash(api.Wreck{}))
	holds(t, "kept names", made, "a", "45")
}

func TestCrashLeavesBytes(t *testing.T) { // P4.2
	made := disk.New(99)
	for _, name := range []string{"d", "b", "a", "c"} {
		trial.Done(t, made.Create(name), made.Append(name, []byte(name+"1")), made.Sync(name), made.Append(name, []byte("234")))
	}
	trial.Done(t, made.SyncNames())
	for _, c := range []struct {
		left []int
		want string // how many bytes behind the kept ones each file has, by rising names
	}{
		{nil, "0000"}, {[]int{}, "0000"}, {[]int{0}, "0000"}, {[]int{1}, "1111"}, {[]int{3}, "3333"}, {[]int{4}, "3333"}, {[]int{math.MaxInt}, "3333"},
		{[]int{-1}, "0000"}, {[]int{math.MinInt}, "0000"}, {[]int{1, 2}, "1212"}, {[]int{0, 1, 2}, "0120"}, {[]int{3, 2, 1, 0}, "3210"}, {[]int{2, -5, 9, 1, 3}, "2031"},
	} {
		var want []string
		for i, name := range []string{"a", "b", "c", "d"} {
			want = append(want, name, name+"1"+"234"[:c.want[i]-'0'])
		}
		handed := slices.Clone(c.left)
		d := made.Clone()
		trial.Done(t, d.Crash(api.Wreck{Bytes: handed}))
		holds(t, "bytes", d, want...)
		if !slices.Equal(handed, c.left) {
			t.Errorf("what was handed in is %v, was %v", handed, c.left)
		}
		trial.Done(t, d.Crash(api.Wreck{})) // all bytes are kept
		holds(t, "bytes behind another crash", d, want...)
		trial.Done(t, d.Append("a", []byte("xyz")))
		holds(t, "bytes behind those that are left", d, append([]string{"a", want[1] + "xyz"}, want[2:]...)...)
	}
	trial.Done(t, made.Remove("b"), made.SyncNames(), made.Crash(api.Wreck{Bytes: []int{0, 1, 2}})) // by the names that there are
	holds(t, "bytes", made, "a", "a1", "c", "c12", "d", "d123")
}

func TestCrashOfExamples(t *testing.T) { // the chapter's examples
	d := disk.New(9)
	trial.Done(t, d.Create("a"), d.Append("a", make([]byte, 5)), d.Crash(api.Wreck{}))
	holds(t, "no names", d)
	trial.Done(t, d.Create("a"), d.SyncNames(), d.Append("a", []byte("12345")), d.Crash(api.Wreck{Bytes: []int{2}}))
	holds(t, "two bytes", d, "a", "12")
	trial.Tells(t, "eight more", d.Append("a", make([]byte, 8)), api.ErrFull)
}

func TestClone(t *testing.T) { // P4.2
	state := func() *disk.Disk {
		d := one(t, 12)
		trial.Done(t, d.Create("b"), d.Append("b", []byte("45")), d.Rename("a", "c"), d.Doom(90))
		return d
	}
	changed := func(d *disk.Disk) {
		trial.Done(t, d.Append("c", []byte("x")), d.Append("b", []byte("yz")), d.Sync("b"), d.Create("d"), d.Append("d", []byte("w")), d.Rename("b", "e"), d.SyncNames(), d.Remove("c"))
		trial.Done(t, d.Grow(1), d.Doom(0))
		trial.Tells(t, "down", d.SyncNames(), api.ErrDown)
	}
	same := func(what string, d *disk.Disk) {
		t.Helper()
		holds(t, what, d, "b", "45", "c", "123")
		trial.Done(t, d.Append("c", make([]byte, 7)))
		trial.Tells(t, what+": room", d.Append("c", make([]byte, 1)), api.ErrFull)
		trial.Done(t, d.Crash(api.Wreck{Names: 1, Bytes: []int{1, 1}}))
		holds(t, what+": crash", d, "a", "123", "b", "4")
	}
	for _, turn := range []bool{false, true} {
		d := state()
		c := d.Clone()
		if turn {
			c, d = d, c
		}
		changed(d)
		same("the other one", c)
		trial.Done(t, d.Crash(api.Wreck{Bytes: []int{9}}))
		holds(t, "this one", d, "c", "123x", "d", "w", "e", "45yz")
	}
	d := one(t, 9)
	trial.Done(t, d.Doom(1))
	c := d.Clone()
	for _, x := range []*disk.Disk{c, d} { // each is doomed by itself
		trial.Done(t, x.Sync("a"))
		trial.Tells(t, "doomed", x.Sync("a"), api.ErrDown)
	}
	trial.Done(t, c.Crash(api.Wreck{}), c.Sync("a"))
	trial.Tells(t, "the other one is down still", d.Sync("a"), api.ErrDown)
}

func TestKept(t *testing.T) { // P4.3
	for _, n := range []int{math.MinInt, -1, 0, 1, 2, 3, 4, 5, 6, 9, math.MaxInt} {
		for _, left := range [][]int{nil, {0}, {-1}, {1}, {2, 1}, {math.MaxInt}} {
			d := disk.New(99)
			trial.Done(t, d.Create("a"), d.Append("a", []byte("12")), d.Sync("a"), d.Create("b"), d.Append("b", []byte("34")), d.Sync("b"), d.SyncNames())
			trial.Done(t, d.Append("a", []byte("56")), d.Create("c"), d.Append("c", []byte("7")), d.Remove("b"), d.Rename("c", "b"), d.Create("d"), d.Remove("d"))
			trial.Done(t, d.Crash(api.Wreck{Names: n, Bytes: left}))
			b, e := d.Read("a")
			if e != api.OK || !bytes.HasPrefix([]byte("1256"), b) || len(b) < 2 {
				t.Errorf("%d changes, bytes %v: a is %q, error %d", n, left, b, e)
			}
		}
	}
}

func TestNilDisk(t *testing.T) { // P4.2
	var d *disk.Disk
	for name, thing := range things() {
		trial.Tells(t, name, thing(d), api.ErrNone)
	}
	if b, e := d.Read("a"); len(b) != 0 || e != api.ErrNone {
		t.Error(b, e)
	}
	if l, e := d.Names(); len(l) != 0 || e != api.ErrNone {
		t.Error(l, e)
	}
	trial.Tells(t, "create of no name", d.Create(""), api.ErrNone)
	for _, n := range []int{-1, 0, 1} {
		trial.Tells(t, "doom", d.Doom(n), api.ErrNone)
		trial.Tells(t, "grow", d.Grow(n), api.ErrNone)
		trial.Tells(t, "crash", d.Crash(api.Wreck{Names: n, Bytes: []int{n}}), api.ErrNone)
	}
	if d.Used() != 0 || d.Clone() != nil {
		t.Error(d.Used(), d.Clone())
	}
}

func TestDiskOfNoNew(t *testing.T) { // rule 1: none panics
	made := func() []*disk.Disk {
		a, b := &disk.Disk{}, &disk.Disk{}
		trial.Done(t, b.Crash(api.Wreck{Names: 1, Bytes: []int{1}}))
		return []*disk.Disk{a, b, a.Clone(), b.Clone()}
	}
	for _, d := range made() {
		holds(t, "none", d)
		trial.Done(t, d.SyncNames(), d.Create("a"), d.Append("a", nil), d.SyncNames())
		trial.Tells(t, "no room", d.Append("a", []byte("1")), api.ErrFull)
		holds(t, "one", d, "a", "")
	}
	for _, d := range made() {
		trial.Tells(t, "none to remove", d.Remove("a"), api.ErrNone)
		trial.Done(t, d.Create("a"), d.Crash(api.Wreck{Names: 1}))
		holds(t, "one", d, "a", "")
	}
}
