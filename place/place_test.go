package place_test

import (
	"slices"
	"strings"
	"testing"

	"creel/api"
	"creel/disk"
	"creel/place"
	"creel/trial"
)

// thing is one thing that is done on a disk.
type thing func(d *disk.Disk) api.Errno

func create(name string) thing { return func(d *disk.Disk) api.Errno { return d.Create(name) } }
func remove(name string) thing { return func(d *disk.Disk) api.Errno { return d.Remove(name) } }
func sync(name string) thing   { return func(d *disk.Disk) api.Errno { return d.Sync(name) } }
func syncNames() thing         { return (*disk.Disk).SyncNames }

func behind(name string, b []byte) thing {
	return func(d *disk.Disk) api.Errno { return d.Append(name, b) }
}

func rename(from, to string) thing {
	return func(d *disk.Disk) api.Errno { return d.Rename(from, to) }
}

// asked is a call, what it tells if it never finds the disk down, and the things that it does, in order.
type asked struct {
	what string
	call thing
	want api.Errno
	does []thing
}

func put(name string, b []byte, want api.Errno, does ...thing) asked {
	return asked{"put of " + name, func(d *disk.Disk) api.Errno { return place.Put(d, name, b) }, want, does}
}

func grow(name string, b []byte, want api.Errno, does ...thing) asked {
	return asked{"grow of " + name, func(d *disk.Disk) api.Errno { return place.Grow(d, name, b) }, want, does}
}

func drop(names []string, want api.Errno, does ...thing) asked {
	return asked{"drop of " + strings.Join(names, " "), func(d *disk.Disk) api.Errno { return place.Drop(d, names) }, want, does}
}

// laid is a disk of so much room that holds a, x and tmp, each with two bytes that are kept and one that is not; the name y of a file without bytes is not kept.
func laid(t *testing.T, room int) *disk.Disk {
	t.Helper()
	d := disk.New(room)
	for _, name := range []string{"a", "x", "tmp"} {
		trial.Done(t, d.Create(name), d.Append(name, []byte(name[:1]+"1")), d.Sync(name), d.SyncNames(), d.Append(name, []byte("2")))
	}
	trial.Done(t, d.Create("y"))
	return d
}

// check fails the test, if a call does other things than are told, or more, or in another order, or tells something else, wherever the disk goes down.
func (a asked) check(t *testing.T, start *disk.Disk) {
	t.Helper()
	trial.Alike(t, a.what, start, a.call, func(d *disk.Disk) api.Errno {
		for _, do := range a.does {
			if do(d) == api.ErrDown {
				return api.ErrDown
			}
		}
		return a.want
	})
}

func TestPutOnDiskWithoutNames(t *testing.T) { // P5.1, the chapter's example
	b := trial.Mixed(70)
	put("x", b, api.OK, remove("tmp"), create("tmp"), behind("tmp", b[:64]), behind("tmp", b[64:]), sync("tmp"), rename("tmp", "x"), syncNames()).check(t, disk.New(99))
}

func TestPutInParts(t *testing.T) { // P5.1
	b := trial.Mixed(200)
	for _, n := range []int{0, 1, 63, 64, 65, 127, 128, 129, 192, 200} {
		does := []thing{remove("tmp"), create("tmp")}
		for at := 0; at < n; at += 64 {
			does = append(does, behind("tmp", b[at:min(at+64, n)]))
		}
		does = append(does, sync("tmp"), rename("tmp", "x"), syncNames())
		put("x", b[:n], api.OK, does...).check(t, laid(t, 999))
		put("x", b[:n:n], api.OK, does...).check(t, disk.New(n))
	}
	put("x", nil, api.OK, remove("tmp"), create("tmp"), sync("tmp"), rename("tmp", "x"), syncNames()).check(t, disk.New(0))
}

func TestPutNames(t *testing.T) { // P5.1
	for _, name := range []string{"x", "y", "z", "t", "tm", "tmpx", "tmp\x00", "TMP", " ", "\xff", strings.Repeat("n", api.MaxName)} {
		put(name, []byte("new"), api.OK, remove("tmp"), create("tmp"), behind("tmp", []byte("new")), sync("tmp"), rename("tmp", name), syncNames()).check(t, laid(t, 99))
	}
}

func TestPutTellsErrors(t *testing.T) { // P5.1
	b := trial.Mixed(130)
	start := []thing{remove("tmp"), create("tmp"), behind("tmp", b[:64])}
	put("x", b, api.ErrFull, start...).check(t, disk.New(0))
	put("x", b, api.ErrFull, start...).check(t, disk.New(63))
	put("x", b, api.ErrFull, append(start, behind("tmp", b[64:128]))...).check(t, disk.New(64))
	put("x", b, api.ErrFull, append(start, behind("tmp", b[64:128]), behind("tmp", b[128:]))...).check(t, disk.New(129))
	put("x", b, api.ErrFull, append(start, behind("tmp", b[64:128]))...).check(t, laid(t, 9+127)) // what is let go of has its room yet
}

func TestGrow(t *testing.T) { // P5.2
	b := trial.Mixed(200)
	for _, n := range []int{0, 1, 64, 65, 200} {
		grow("z", b[:n], api.OK, create("z"), syncNames(), behind("z", b[:n]), sync("z")).check(t, laid(t, 999))
		grow("z", b[:n], api.OK, create("z"), syncNames(), behind("z", b[:n]), sync("z")).check(t, disk.New(n))
		grow("x", b[:n], api.OK, create("x"), behind("x", b[:n]), sync("x")).check(t, laid(t, 999))
		grow("y", b[:n], api.OK, create("y"), behind("y", b[:n]), sync("y")).check(t, laid(t, 999)) // and its name is not kept
	}
	for _, name := range []string{"tm", "tmpx", "TMP", " ", "\xff", strings.Repeat("n", api.MaxName)} {
		grow(name, b, api.OK, create(name), syncNames(), behind(name, b), sync(name)).check(t, laid(t, 999))
	}
}

func TestGrowTellsErrors(t *testing.T) { // P5.2
	b := trial.Mixed(130)
	grow("z", b, api.ErrFull, create("z"), syncNames(), behind("z", b)).check(t, disk.New(129))
	grow("x", b, api.ErrFull, create("x"), behind("x", b)).check(t, laid(t, 9+129))
	grow("x", nil, api.ErrFull, create("x"), behind("x", nil)).check(t, fuller(t)) // as layer 4 tells it
}

// fuller is a disk that uses more than its room.
func fuller(t *testing.T) *disk.Disk {
	t.Helper()
	d := laid(t, 9)
	trial.Done(t, d.Grow(8))
	return d
}

func TestNoNames(t *testing.T) { // P5.1, P5.2
	long := strings.Repeat("n", api.MaxName+1)
	for _, name := range []string{"tmp", "", long, strings.Repeat("é", api.MaxName/2) + "n"} {
		for _, b := range [][]byte{nil, []byte("new"), make([]byte, 999)} {
			for _, d := range []*disk.Disk{disk.New(0), laid(t, 99)} {
				put(name, b, api.ErrArg).check(t, d)
				grow(name, b, api.ErrArg).check(t, d)
			}
			trial.Tells(t, "put on no disk", place.Put(nil, name, b), api.ErrArg)
			trial.Tells(t, "grow on no disk", place.Grow(nil, name, b), api.ErrArg)
			down := laid(t, 99)
			trial.Done(t, down.Doom(0))
			trial.Tells(t, "one more thing", down.SyncNames(), api.ErrDown)
			trial.Tells(t, "put on a disk that is down", place.Put(down, name, b), api.ErrArg)
			trial.Tells(t, "grow on a disk that is down", place.Grow(down, name, b), api.ErrArg)
		}
	}
}

func TestDrop(t *testing.T) { // P5.2
	none := strings.Repeat("n", api.MaxName+1)
	for _, c := range [][]string{
		{"a"}, {"x"}, {"tmp"}, {"y"}, {"a", "x", "tmp", "y"}, {"x", "a"}, {"a", "a"},
		{"z", "a"}, {"a", "z"}, {"", "a", none}, {"z", "a", "z", "x", "a"},
	} {
		var does []thing
		for _, name := range c {
			does = append(does, remove(name))
		}
		drop(c, api.OK, append(does, syncNames())...).check(t, laid(t, 99))
		drop(c, api.OK, does...).check(t, disk.New(99)) // none was there
	}
	drop([]string{"z", "", none, "z"}, api.OK, remove("z"), remove(""), remove(none), remove("z")).check(t, laid(t, 99))
	drop(nil, api.OK).check(t, laid(t, 99))
	drop([]string{}, api.OK).check(t, laid(t, 99))
}

func TestNoDisk(t *testing.T) { // P5.1, P5.2: what layer 4 tells of one
	trial.Tells(t, "put", place.Put(nil, "x", []byte("new")), api.ErrNone)
	trial.Tells(t, "grow", place.Grow(nil, "x", []byte("new")), api.ErrNone)
	trial.Tells(t, "drop", place.Drop(nil, []string{"x", ""}), api.OK) // each ErrNone is none
	trial.Tells(t, "drop of none", place.Drop(nil, nil), api.OK)
}

func TestDiskOfNoNew(t *testing.T) { // rule 1: none panics
	trial.Tells(t, "put", place.Put(&disk.Disk{}, "x", []byte("new")), api.ErrFull)
	trial.Tells(t, "grow", place.Grow(&disk.Disk{}, "x", []byte("new")), api.ErrFull)
	trial.Tells(t, "drop", place.Drop(&disk.Disk{}, []string{"x"}), api.OK)
}

// one is a file's bytes; false, if it is not there.
func one(files []string, name string) (string, bool) {
	for i := 0; i < len(files); i += 2 {
		if files[i] == name {
			return files[i+1], true
		}
	}
	return "", false
}

func TestCrashInPut(t *testing.T) { // P5.3
	is := string(trial.Mixed(150))
	old := disk.New(999)
	trial.Done(t, place.Put(old, "a", []byte("other")), place.Put(old, "x", []byte("old")), old.Create("tmp"), old.Append("tmp", []byte("rest")))
	for _, start := range []*disk.Disk{disk.New(999), old} {
		was, had := one(trial.Files(start), "x")
		other, more := one(trial.Files(start), "a")
		trial.Whenever(t, start, put("x", []byte(is), api.OK).call, func(code api.Errno, d *disk.Disk) {
			l := trial.Files(d)
			x, has := one(l, "x")
			if whole := has && x == is; !whole && (code == api.OK || x != was || has != had) {
				t.Errorf("error %d, then %q, %v", code, x, has)
			}
			if a, has := one(l, "a"); a != other || has != more {
				t.Errorf("error %d, then the other one %q, %v", code, a, has)
			}
		})
	}
}

func TestCrashInGrow(t *testing.T) { // P5.3
	behind := string(trial.Mixed(150))
	old := disk.New(999)
	trial.Done(t, place.Put(old, "a", []byte("other")), place.Grow(old, "x", []byte("o")), place.Grow(old, "x", []byte("ld")))
	for _, start := range []*disk.Disk{disk.New(999), old} {
		was, had := one(trial.Files(start), "x")
		trial.Whenever(t, start, grow("x", []byte(behind), api.OK).call, func(code api.Errno, d *disk.Disk) {
			x, has := one(trial.Files(d), "x")
			if had && !has || !strings.HasPrefix(x, was) || !strings.HasPrefix(behind, x[len(was):]) || code == api.OK && x != was+behind {
				t.Errorf("error %d, then %q, %v", code, x, has)
			}
		})
	}
}

func TestCrashBehindDrop(t *testing.T) { // P5.2
	start := laid(t, 99)
	trial.Whenever(t, start, drop([]string{"a", "y", "tmp", "z"}, api.OK).call, func(code api.Errno, d *disk.Disk) {
		l := trial.Files(d)
		if x, has := one(l, "x"); !has || !strings.HasPrefix(x, "x1") {
			t.Errorf("error %d, then %q", code, l)
		}
		if code == api.OK && len(l) != 2 {
			t.Errorf("%q is left", l)
		}
	})
}

func TestWhatIsHandedInStays(t *testing.T) { // rule 4
	list := trial.Mixed(200)
	b, names := slices.Clone(list)[:100], []string{"x", "z", "y", "a"}
	d := disk.New(999)
	trial.Done(t, place.Put(d, "x", b), place.Grow(d, "y", b), place.Grow(d, "y", b), place.Grow(d, "x", b[:9]))
	if !slices.Equal(b[:200], list) {
		t.Error("other bytes than were handed in")
	}
	clear(b[:200])
	want := string(list[:100])
	if l := trial.Files(d); !slices.Equal(l, []string{"x", want + want[:9], "y", want + want}) {
		t.Errorf("%q behind a change of what was handed in", l)
	}
	trial.Done(t, place.Drop(d, names[:2]))
	if !slices.Equal(names, []string{"x", "z", "y", "a"}) {
		t.Error(names)
	}
	if l := trial.Files(d); !slices.Equal(l, []string{"y", want + want}) {
		t.Errorf("%q behind a drop", l) // what is behind a list's length is not read
	}
}
