package disk_test

import (
	"maps"
	"slices"
	"testing"

	"creel/api"
	"creel/disk"
	"creel/trial"
)

// model is a disk by the chapter's words: all names as they were, the kept ones first, and then those behind each change.
type model struct {
	room  int
	files []content
	was   []map[string]int // the place of each name's file
	down  bool
	left  int // things that are left to be done; below 0, if it is not doomed
}

type content struct {
	bytes string
	kept  int
}

func newModel(room int) model {
	return model{room: room, was: []map[string]int{{}}, left: -1}
}

func (m model) clone() model {
	m.files = slices.Clone(m.files)
	m.was = slices.Clone(m.was) // a map is never changed behind its change
	return m
}

func (m model) names() map[string]int { return m.was[len(m.was)-1] }

func (m model) used() int {
	told := map[int]bool{}
	n := 0
	for _, names := range m.was {
		for _, f := range names {
			if !told[f] {
				told[f] = true
				n += len(m.files[f].bytes)
			}
		}
	}
	return n
}

func (m *model) change(do func(names map[string]int)) api.Errno {
	names := maps.Clone(m.names())
	do(names)
	m.was = append(m.was, names)
	return api.OK
}

func (m *model) thing(o order) api.Errno {
	if m.down || m.left == 0 {
		m.down = true
		return api.ErrDown
	}
	if m.left > 0 {
		m.left--
	}
	f, there := m.names()[o.name]
	switch {
	case o.do == "syncnames":
		m.was = m.was[len(m.was)-1:]
		return api.OK
	case o.do == "create" && (o.name == "" || len(o.name) > 32):
		return api.ErrArg
	case o.do == "create" && there:
		return api.ErrThere
	case o.do == "create":
		m.files = append(m.files, content{})
		return m.change(func(names map[string]int) { names[o.name] = len(m.files) - 1 })
	case !there:
		return api.ErrNone
	case o.do == "remove":
		return m.change(func(names map[string]int) { delete(names, o.name) })
	case o.do == "sync":
		m.files[f].kept = len(m.files[f].bytes)
		return api.OK
	case o.do == "append" && m.used()+len(o.text) > m.room:
		return api.ErrFull
	case o.do == "append":
		m.files[f].bytes += o.text
		return api.OK
	case o.text == "" || len(o.text) > 32:
		return api.ErrArg
	}
	return m.change(func(names map[string]int) { delete(names, o.name); names[o.text] = f })
}

func (m *model) crash(w api.Wreck) {
	m.was = m.was[:min(max(w.Names, 0), len(m.was)-1)+1]
	m.was = m.was[len(m.was)-1:]
	for i, name := range slices.Sorted(maps.Keys(m.names())) {
		f := &m.files[m.names()[name]]
		n := 0
		if len(w.Bytes) > 0 {
			n = max(w.Bytes[i%len(w.Bytes)], 0)
		}
		f.bytes = f.bytes[:min(f.kept+n, len(f.bytes))]
		f.kept = len(f.bytes)
	}
	m.down, m.left = false, -1
}

// order is what a disk and its model are told.
type order struct {
	do, name, text string
	n              int
	w              api.Wreck
}

// tell tells both, and fails the test, if they do not answer the same.
func tell(t *testing.T, d *disk.Disk, m *model, o order) {
	t.Helper()
	var got, want api.Errno
	switch o.do {
	case "doom":
		got = d.Doom(o.n)
		m.left = o.n
	case "grow":
		got = d.Grow(o.n)
		m.room = o.n
	case "crash":
		got = d.Crash(o.w)
		m.crash(o.w)
	default:
		got, want = ordered(d, o), m.thing(o)
	}
	if got != want {
		t.Fatalf("%v: error %d, want %d", o, got, want)
	}
}

func ordered(d *disk.Disk, o order) api.Errno {
	switch o.do {
	case "create":
		return d.Create(o.name)
	case "append":
		return d.Append(o.name, []byte(o.text))
	case "sync":
		return d.Sync(o.name)
	case "rename":
		return d.Rename(o.name, o.text)
	case "remove":
		return d.Remove(o.name)
	}
	return d.SyncNames()
}

// agree fails the test, if a disk is not as its model is.
func agree(t *testing.T, what string, d *disk.Disk, m model) {
	t.Helper()
	if d.Used() != m.used() {
		t.Fatalf("%s: %d used, want %d", what, d.Used(), m.used())
	}
	if m.down || m.left >= 0 { // what is asked for is a thing that is done, too
		return
	}
	l, e := d.Names()
	if !slices.Equal(l, slices.Sorted(maps.Keys(m.names()))) || e != api.OK {
		t.Fatalf("%s: names %q, error %d; want %v", what, l, e, m.names())
	}
	for _, name := range l {
		if b, e := d.Read(name); string(b) != m.files[m.names()[name]].bytes || e != api.OK {
			t.Fatalf("%s: %s is %q, error %d; want %q", what, name, b, e, m.files[m.names()[name]].bytes)
		}
	}
}

// wrecks are crashes of disks that had a few changes of names.
func wrecks() []api.Wreck {
	return []api.Wreck{{}, {Names: -3, Bytes: []int{1}}, {Names: 1, Bytes: []int{1, 0}}, {Names: 2, Bytes: []int{-1, 2}}, {Names: 3, Bytes: []int{0, 1, 9}}, {Names: 99, Bytes: []int{99}}}
}

func TestAllShortWays(t *testing.T) { // P4.1 to P4.3
	orders := []order{{do: "create", name: "a"}, {do: "append", name: "a", text: "12"}, {do: "append", name: "b", text: "345"}, {do: "sync", name: "a"}, {do: "sync", name: "b"},
		{do: "rename", name: "a", text: "b"}, {do: "rename", name: "b", text: "a"}, {do: "rename", name: "a", text: "a"}, {do: "remove", name: "a"}, {do: "remove", name: "b"}, {do: "syncnames"}}
	var all func(d *disk.Disk, m model, deep int)
	all = func(d *disk.Disk, m model, deep int) {
		agree(t, "ahead of a crash", d, m)
		for _, w := range wrecks() {
			c, n := d.Clone(), m.clone()
			tell(t, c, &n, order{do: "crash", w: w})
			agree(t, "behind a crash", c, n)
		}
		for i := 0; deep > 0 && i < len(orders); i++ {
			c, n := d.Clone(), m.clone()
			tell(t, c, &n, orders[i])
			all(c, n, deep-1)
		}
	}
	d, m := disk.New(7), newModel(7)
	for _, o := range []order{{do: "create", name: "a"}, {do: "append", name: "a", text: "6"}, {do: "sync", name: "a"}} {
		tell(t, d, &m, o)
	}
	all(d, m, 4)
	if m.used() != 1 || d.Used() != 1 {
		t.Error("a disk is changed by what its clones were told")
	}
}

func TestLongWays(t *testing.T) { // P4.1 to P4.3
	names := []string{"a", "b", "c", "d", "e", "", "a name of more than 32 bytes is none"}
	kinds := []string{"create", "create", "append", "append", "append", "append", "sync", "sync", "rename", "rename", "remove", "syncnames", "crash", "doom", "grow"}
	noise := trial.Mixed(1 << 18)
	next := func(n int) int {
		x := int(noise[0])
		noise = noise[1:]
		return x % n
	}
	d, m := disk.New(40), newModel(40)
	crashes := 0
	for len(noise) > 20 {
		o := order{do: kinds[next(len(kinds))], name: names[next(len(names))]}
		switch o.do {
		case "append":
			o.text = "0123456789"[:next(11)]
		case "rename":
			o.text = names[next(len(names))]
		case "crash":
			o.w = api.Wreck{Names: next(12) - 1}
			for range next(4) {
				o.w.Bytes = append(o.w.Bytes, next(12)-1)
			}
			crashes++
		case "doom":
			o.n = next(60)
		case "grow":
			o.n = 20 + next(60)
		}
		if next(9) == 0 {
			c := d.Clone()
			d.Crash(api.Wreck{}) // what the other one is told from now on is nothing to the clone
			d = c
		}
		tell(t, d, &m, o)
		agree(t, o.do, d, m)
	}
	if crashes < 1000 {
		t.Errorf("only %d crashes", crashes)
	}
}
