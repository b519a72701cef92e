package journal_test

import (
	"bytes"
	"slices"
	"strings"
	"testing"

	"creel/api"
	"creel/disk"
	"creel/frame"
	"creel/journal"
	"creel/place"
	"creel/trial"
)

// framed is the frames of notes.
func framed(t *testing.T, notes ...string) []byte {
	t.Helper()
	var b []byte
	for _, x := range notes {
		more, e := frame.Put(b, []byte(x))
		trial.Done(t, e)
		b = more
	}
	return b
}

// holding is a disk of so much room that holds another file, the rest of one on the way, and a journal of these bytes, the last of which is not kept.
func holding(t *testing.T, room int, b []byte) *disk.Disk {
	t.Helper()
	d := disk.New(room)
	kept := max(len(b)-1, 0)
	trial.Done(t, place.Put(d, "a", []byte("other")), d.Create("tmp"), d.Append("tmp", []byte("rest")))
	trial.Done(t, d.Create("journal"), d.SyncNames(), d.Append("journal", b[:kept]), d.Sync("journal"), d.Append("journal", b[kept:]))
	return d
}

// add is a call of Add.
func add(x []byte) func(d *disk.Disk) api.Errno {
	return func(d *disk.Disk) api.Errno { return journal.Add(d, x) }
}

// opens fails the test, if Open of a disk tells other notes or another number than these, or notes beside an error.
func opens(t *testing.T, what string, d *disk.Disk, want api.Errno, notes ...string) {
	t.Helper()
	l, code := journal.Open(d)
	trial.Tells(t, what, code, want)
	if got := texts(l); !slices.Equal(got, notes) {
		t.Errorf("%s: %q, want %q", what, got, notes)
	}
}

// texts is lists of bytes as texts.
func texts(l [][]byte) []string {
	var out []string
	for _, b := range l {
		out = append(out, string(b))
	}
	return out
}

// open is a call of Open; it fails the test, if that tells other notes than these beside OK, or any beside an error.
func open(t *testing.T, notes ...string) func(d *disk.Disk) api.Errno {
	return func(d *disk.Disk) api.Errno {
		l, code := journal.Open(d)
		if got := texts(l); code == api.OK && !slices.Equal(got, notes) || code != api.OK && len(got) > 0 {
			t.Errorf("error %d, and %q; want %q", code, got, notes)
		}
		return code
	}
}

// read is what Open does to a journal of frames alone; of none, too.
func read(d *disk.Disk) api.Errno {
	_, code := d.Read("journal")
	if code == api.ErrNone {
		return api.OK
	}
	return code
}

// kinds are the notes of journals.
func kinds() [][]string {
	return [][]string{
		nil, {""}, {"a"}, {"a", "b"}, {"", "", ""}, {"one", "", "three"}, {"b", "a", "b"}, {string(trial.Mixed(300)), "\x00\xff"},
		{strings.Repeat("n", api.MaxFrame), "a"},
	}
}

func TestOpenOfWhole(t *testing.T) { // P6.1
	for _, l := range kinds() {
		start := holding(t, 9999, framed(t, l...))
		opens(t, "open", start.Clone(), api.OK, l...)
		trial.Alike(t, "open", start, open(t, l...), read)
	}
}

func TestOpenOfNone(t *testing.T) { // P6.1
	other := disk.New(99)
	trial.Done(t, place.Put(other, "journals", framed(t, "a")), other.Create("tmp"), other.Append("tmp", framed(t, "b")))
	gone := holding(t, 99, framed(t, "a"))
	trial.Done(t, gone.Remove("journal"))
	for _, start := range []*disk.Disk{disk.New(0), {}, other, gone} {
		opens(t, "open", start.Clone(), api.OK)
		trial.Alike(t, "open", start, open(t), read)
	}
}

func TestOpenLetsGoOfPart(t *testing.T) { // P6.1
	whole := framed(t, "b")
	turned := bytes.Clone(whole)
	turned[4]++
	long := append([]byte{0, 0, 16, 1}, make([]byte, api.MaxFrame+5)...)
	for _, l := range kinds() {
		for _, part := range [][]byte{
			whole[:1], whole[:4], whole[:len(whole)-1], turned, append(bytes.Clone(turned), whole...), {0}, {0, 0, 0, 9, 1}, make([]byte, 8), {255, 255, 255, 255}, long,
			append([]byte{9}, framed(t, "a", "b")...),
		} {
			b := framed(t, l...)
			start := holding(t, 99999, append(bytes.Clone(b), part...))
			opens(t, "open of a part", start.Clone(), api.OK, l...)
			trial.Alike(t, "open of a part", start, open(t, l...), func(d *disk.Disk) api.Errno {
				if code := read(d); code != api.OK {
					return code
				}
				return place.Put(d, "journal", b)
			})
		}
	}
}

func TestOpenTellsErrors(t *testing.T) { // P6.1
	for _, l := range [][]string{nil, {"a", "b"}} {
		b := framed(t, l...)
		start := holding(t, 9+len(b)+1, append(bytes.Clone(b), 7)) // all of its room is used
		opens(t, "open of a full disk", holding(t, 9+len(b), b), api.OK, l...)
		if len(b) > 0 {
			opens(t, "open of a part on a full disk", start.Clone(), api.ErrFull)
		} else {
			opens(t, "open of a part alone on a full disk", start.Clone(), api.OK) // for what it has needs no room
		}
		down := start.Clone()
		trial.Done(t, down.Doom(0))
		opens(t, "open of a disk that is doomed", down, api.ErrDown)
		opens(t, "open of a disk that is down", down, api.ErrDown)
	}
}

func TestAdd(t *testing.T) { // P6.1
	for _, x := range []string{"", "a", "three", string(trial.Mixed(65)), strings.Repeat("n", api.MaxFrame-1), strings.Repeat("n", api.MaxFrame)} {
		b := framed(t, x)
		for _, start := range []*disk.Disk{
			disk.New(9999), disk.New(len(b)), disk.New(len(b) - 1), disk.New(0), {},
			holding(t, 9999, framed(t, "a")), holding(t, 9999, nil), holding(t, 9999, []byte{0, 0}), holding(t, 9+9+len(b)-1, framed(t, "a")),
		} {
			trial.Alike(t, "add", start, add([]byte(x)), func(d *disk.Disk) api.Errno { return place.Grow(d, "journal", b) })
		}
	}
}

func TestAddOfFullDisk(t *testing.T) { // P6.1
	d := holding(t, 30, framed(t, "a"))
	trial.Tells(t, "add of more than there is room for", journal.Add(d, []byte("12345")), api.ErrFull)
	opens(t, "behind that", d, api.OK, "a")
	trial.Done(t, journal.Add(d, []byte("1234")))
	opens(t, "behind one for which there is", d, api.OK, "a", "1234")
}

func TestAddOfLong(t *testing.T) { // P6.1
	down := disk.New(9999)
	trial.Done(t, down.Doom(0))
	trial.Tells(t, "one more thing", down.SyncNames(), api.ErrDown)
	for _, n := range []int{api.MaxFrame + 1, api.MaxFrame + 2, 1 << 16} {
		x := make([]byte, n)
		for _, start := range []*disk.Disk{disk.New(0), disk.New(1 << 20), holding(t, 99, framed(t, "a"))} {
			trial.Alike(t, "add of a long one", start, add(x), func(d *disk.Disk) api.Errno { return api.ErrLong })
		}
		trial.Tells(t, "add of a long one on no disk", journal.Add(nil, x), api.ErrLong)
		trial.Tells(t, "add of a long one on a disk that is down", journal.Add(down, x), api.ErrLong)
	}
}

func TestBegin(t *testing.T) { // P6.1
	for _, start := range []*disk.Disk{
		disk.New(0), {}, holding(t, 9, nil), holding(t, 99, framed(t, "a", "b")), holding(t, 99, []byte{0, 0, 0, 9, 1}),
	} {
		trial.Alike(t, "begin", start, journal.Begin, func(d *disk.Disk) api.Errno { return place.Put(d, "journal", nil) })
		d := start.Clone()
		trial.Done(t, journal.Begin(d), d.Crash(api.Wreck{}))
		opens(t, "behind that", d, api.OK)
	}
}

func TestNoDisk(t *testing.T) { // P6.1
	opens(t, "open", nil, api.OK)
	trial.Tells(t, "add", journal.Add(nil, []byte("a")), api.ErrNone)
	trial.Tells(t, "add of none", journal.Add(nil, nil), api.ErrNone)
	trial.Tells(t, "begin", journal.Begin(nil), api.ErrNone)
}

func TestExample(t *testing.T) { // the chapter's
	d := disk.New(18)
	trial.Done(t, journal.Add(d, []byte("a")), journal.Add(d, []byte("b")), d.Crash(api.Wreck{}))
	opens(t, "open", d, api.OK, "a", "b")
}

func TestCrashInAdd(t *testing.T) { // P6.2
	x := string(trial.Mixed(20))
	for _, l := range [][]string{nil, {"a"}, {"one", "", "three"}} {
		start := disk.New(999)
		for _, note := range l {
			trial.Done(t, journal.Add(start, []byte(note)))
		}
		trial.Whenever(t, start, add([]byte(x)), func(code api.Errno, d *disk.Disk) {
			got, e := journal.Open(d)
			trial.Tells(t, "open", e, api.OK)
			all := slices.Equal(texts(got), append(slices.Clone(l), x))
			if !all && (code == api.OK || !slices.Equal(texts(got), l)) {
				t.Errorf("error %d, then %q", code, texts(got))
			}
			want := slices.Clone(texts(got))
			trial.Done(t, journal.Add(d, []byte("more")), d.Crash(api.Wreck{}))
			opens(t, "behind one more", d, api.OK, append(want, "more")...)
		})
	}
}

func TestCrashInOpen(t *testing.T) { // P6.2: what was told once is told again, whenever it crashes in between
	b := framed(t, "one", "", string(trial.Mixed(70)))
	start := disk.New(999)
	trial.Done(t, place.Grow(start, "journal", append(bytes.Clone(b), b[:9]...)))
	trial.Whenever(t, start, open(t, "one", "", string(trial.Mixed(70))), func(_ api.Errno, d *disk.Disk) {
		opens(t, "again", d, api.OK, "one", "", string(trial.Mixed(70)))
	})
}

func TestCrashInBegin(t *testing.T) { // P6.1
	start := disk.New(999)
	trial.Done(t, journal.Add(start, []byte("a")), journal.Add(start, []byte("b")))
	trial.Whenever(t, start, journal.Begin, func(code api.Errno, d *disk.Disk) {
		l, e := journal.Open(d)
		trial.Tells(t, "open", e, api.OK)
		if len(l) != 0 && (code == api.OK || !slices.Equal(texts(l), []string{"a", "b"})) {
			t.Errorf("error %d, then %q", code, texts(l))
		}
	})
}

func TestManyCrashes(t *testing.T) { // P6.2
	d := disk.New(1 << 20)
	var sure []string // what was added with OK, or was told since
	noise := trial.Mixed(4000)
	for i := 0; i+4 <= len(noise); i += 4 {
		x := string(trial.Mixed(int(noise[i])))
		trial.Done(t, d.Doom(int(noise[i+1]%12)))
		for range 12 { // more than are done till it is down
			if journal.Add(d, []byte(x)) == api.OK {
				sure = append(sure, x)
			}
		}
		d.Crash(api.Wreck{Names: int(noise[i+2] % 3), Bytes: []int{int(noise[i+3])}})
		l, e := journal.Open(d)
		trial.Tells(t, "open", e, api.OK)
		got := texts(l)
		if !slices.Equal(got, sure) && !slices.Equal(got, append(slices.Clone(sure), x)) {
			t.Fatalf("round %d: %d notes, want %d, or one more", i, len(got), len(sure))
		}
		sure = got
		if noise[i]%16 == 0 {
			trial.Done(t, journal.Begin(d))
			sure = nil
		}
	}
}

func TestWhatIsHandedInStays(t *testing.T) { // rule 4
	list := trial.Mixed(20)
	x := bytes.Clone(list)[:10]
	d := disk.New(99)
	trial.Done(t, journal.Add(d, x))
	if !bytes.Equal(x[:20], list) {
		t.Error("other bytes than were handed in")
	}
	clear(x[:20])
	opens(t, "behind a change of what was handed in", d, api.OK, string(list[:10]))
}

func TestWhatIsAnsweredIsNew(t *testing.T) { // rule 5
	d := disk.New(99)
	trial.Done(t, journal.Add(d, []byte("one")), journal.Add(d, []byte("two")), d.Append("journal", []byte{1}))
	for range 2 { // a part is let go of, then there is none
		l, _ := journal.Open(d)
		for _, x := range l {
			clear(x)
			_ = append(x, 9, 9, 9, 9, 9, 9, 9, 9, 9)
			if got := string(l[1]); len(got) != 3 || got != "two" && got != "\x00\x00\x00" {
				t.Errorf("%q", l)
			}
		}
		_ = append(l[:0], nil, nil)
		opens(t, "behind a change of what was answered", d, api.OK, "one", "two")
	}
}
