package frame_test

import (
	"bytes"
	"hash/crc32"
	"slices"
	"testing"

	"creel/api"
	"creel/frame"
	"creel/trial"
)

// sealed is P3.1's Seal by its words, by a sum that is known.
func sealed(x []byte) []byte {
	sum := crc32.Checksum(x, crc32.MakeTable(crc32.Castagnoli))
	return append(bytes.Clone(x), byte(sum%256), byte(sum/256%256), byte(sum/65536%256), byte(sum/16777216))
}

// sized is x sealed behind a length of 4 bytes, whatever length that is.
func sized(n uint32, x []byte) []byte {
	return sealed(append([]byte{byte(n / 16777216), byte(n / 65536 % 256), byte(n / 256 % 256), byte(n % 256)}, x...))
}

// framed is P3.1's frame of x by its words.
func framed(x []byte) []byte { return sized(uint32(len(x)), x) }

// joined are bytes one behind the other.
func joined(l ...[]byte) []byte { return slices.Concat(l...) }

// texts are bytes that a frame may have, of several kinds, none and the most among them.
func texts() [][]byte {
	l := [][]byte{nil, {}, {0}, {1}, {255}, []byte("abc"), []byte("123456789"), make([]byte, 4), make([]byte, 300), bytes.Repeat([]byte{255}, 40),
		framed(nil), framed([]byte("x")), sealed([]byte("y"))}
	for _, n := range []int{2, 3, 4, 5, 8, 31, 32, 33, 127, 128, 255, 256, 257, 1000, 1 << 10, api.MaxFrame - 1, api.MaxFrame} {
		l = append(l, trial.Mixed(n))
	}
	return l
}

// behinds are bytes that stand behind a frame.
func behinds() [][]byte {
	return [][]byte{nil, {}, {0}, {1}, {255, 255, 255, 255}, {0, 0, 0, 0}, framed(nil), framed([]byte("next")), trial.Mixed(70)}
}

// same tells whether lists of bytes have the same.
func same(a, b [][]byte) bool { return slices.EqualFunc(a, b, bytes.Equal) }

// lone fails the test, if a call did not tell the error that is wanted, or told anything else.
func lone(t *testing.T, what string, b []byte, told int, e, want api.Errno) {
	t.Helper()
	if e != want || told != 0 {
		t.Errorf("%s of %v: %d told, error %d; want error %d alone", what, short(b), told, e, want)
	}
}

// short is what is shown of bytes.
func short(b []byte) []byte { return b[:min(len(b), 40)] }

func TestSeal(t *testing.T) { // P3.1
	for _, x := range []struct{ in, want []byte }{
		{nil, []byte{0, 0, 0, 0}},
		{[]byte{}, []byte{0, 0, 0, 0}},
		{[]byte{0}, []byte{0, 0x51, 0x53, 0x7d, 0x52}},
		{[]byte("a"), []byte{'a', 0x30, 0x43, 0xd0, 0xc1}},
		{[]byte("123456789"), []byte("123456789\x83\x92\x06\xe3")},
		{[]byte{0, 0, 0, 0}, []byte{0, 0, 0, 0, 199, 75, 103, 72}},
	} {
		if got := frame.Seal(x.in); !bytes.Equal(got, x.want) {
			t.Errorf("Seal of %v: %v, want %v", x.in, got, x.want)
		}
	}
	for _, x := range append(texts(), trial.Mixed(api.MaxFrame+1), trial.Mixed(70000)) { // as many bytes as there may be
		if got := frame.Seal(x); !bytes.Equal(got, sealed(x)) {
			t.Errorf("Seal of %d bytes ends in %v, want %v", len(x), got[max(0, len(got)-4):], sealed(x)[len(x):])
		}
	}
}

func TestUnseal(t *testing.T) { // P3.1
	for _, x := range append(texts(), trial.Mixed(api.MaxFrame+1), trial.Mixed(70000)) {
		got, e := frame.Unseal(sealed(x))
		if e != api.OK || !bytes.Equal(got, x) {
			t.Errorf("Unseal of %v, sealed: %v, error %d", short(x), short(got), e)
		}
	}
}

func TestUnsealShort(t *testing.T) { // P3.1: fewer than 4 bytes, whatever these are
	for n := range 4 {
		for _, b := range [][]byte{make([]byte, n), bytes.Repeat([]byte{255}, n), trial.Mixed(n), sealed([]byte("abc"))[:n]} {
			x, e := frame.Unseal(b)
			lone(t, "Unseal", b, len(x), e, api.ErrShort)
		}
	}
	x, e := frame.Unseal(nil)
	lone(t, "Unseal", nil, len(x), e, api.ErrShort)
}

func TestUnsealCorrupt(t *testing.T) { // P3.1
	corrupt := func(b []byte) {
		t.Helper()
		x, e := frame.Unseal(b)
		lone(t, "Unseal", b, len(x), e, api.ErrCorrupt)
	}
	for _, b := range [][]byte{{1, 0, 0, 0}, {0, 0, 0, 1}, {255, 255, 255, 255}, {0, 0, 0, 0, 0}, {1, 0, 0, 0, 0}, trial.Mixed(100)} {
		corrupt(b)
	}
	for _, x := range texts() {
		b := sealed(x)
		sum := b[len(x):]
		corrupt(append(bytes.Clone(b), 1))
		if len(b) > 4 {
			corrupt(joined(x, []byte{sum[3], sum[2], sum[1], sum[0]})) // highest first: no sum here is the same both ways
			corrupt(b[:len(b)-1])
			corrupt(b[1:])
		}
		for i := range 4 {
			for _, by := range []byte{1, 16, 128, 255} {
				c := bytes.Clone(b)
				c[len(x)+i] ^= by
				corrupt(c)
			}
		}
	}
}

func TestPut(t *testing.T) { // P3.1
	if got, e := frame.Put(nil, nil); e != api.OK || !bytes.Equal(got, []byte{0, 0, 0, 0, 199, 75, 103, 72}) {
		t.Errorf("Put of nothing: %v, error %d", got, e)
	}
	for _, b := range append(texts(), trial.Mixed(70000)) { // what is ahead may be longer than a frame
		for _, x := range texts() {
			want := joined(b, framed(x))
			if got, e := frame.Put(b, x); e != api.OK || !bytes.Equal(got, want) {
				t.Errorf("Put of %v behind %v: %d bytes, error %d; want %d", short(x), short(b), len(got), e, len(want))
			}
		}
	}
}

func TestPutLong(t *testing.T) { // P3.1
	for _, n := range []int{api.MaxFrame + 1, api.MaxFrame + 2, 2 * api.MaxFrame, 1 << 16, 1<<16 + 5} {
		for _, b := range [][]byte{nil, {}, {7}, framed(nil), trial.Mixed(5000)} {
			got, e := frame.Put(b, make([]byte, n))
			lone(t, "Put", b, len(got), e, api.ErrLong)
		}
	}
}

func TestTake(t *testing.T) { // P3.1, and P3.3: what was put is taken
	for _, x := range texts() {
		for _, behind := range behinds() {
			put, _ := frame.Put(nil, x)
			for _, b := range [][]byte{joined(framed(x), behind), joined(put, behind)} {
				got, rest, e := frame.Take(b)
				if e != api.OK || !bytes.Equal(got, x) || !bytes.Equal(rest, behind) {
					t.Errorf("Take of the frame of %v, and %v: %v, %v, error %d", short(x), short(behind), short(got), short(rest), e)
				}
			}
		}
	}
}

// untaken fails the test, if Take of b tells anything but the error that is wanted.
func untaken(t *testing.T, b []byte, want api.Errno) {
	t.Helper()
	x, rest, e := frame.Take(b)
	lone(t, "Take", b, len(x)+len(rest), e, want)
	if l, n := frame.All(b); len(l) != 0 || n != 0 {
		t.Errorf("All of %v: %d frames of %d bytes, want none", short(b), len(l), n)
	}
	if l, e := frame.Only(b); len(b) > 0 && (len(l) != 0 || e != want) {
		t.Errorf("Only of %v: %d frames, error %d; want error %d alone", short(b), len(l), e, want)
	}
}

func TestCutFramesAreShort(t *testing.T) { // P3.1, P3.3
	untaken(t, nil, api.ErrShort)
	for _, x := range texts() {
		b := framed(x)
		for n := 0; n < len(b); n += 1 + n/50*7 {
			untaken(t, b[:n], api.ErrShort)
			if n > 4 { // a part that is wrong, too, goes on all the same
				wrong := bytes.Clone(b[:n])
				wrong[n-1] ^= 255
				untaken(t, wrong, api.ErrShort)
			}
		}
		untaken(t, b[:len(b)-1], api.ErrShort)
	}
	for _, b := range [][]byte{{255}, {255, 255, 255}, {0, 0, 16}, {0, 0, 16, 0}, {0, 0, 0, 0}, {0, 0, 0, 1, 9, 9, 9, 9}, joined([]byte{0, 0, 16, 0}, make([]byte, 4099))} {
		untaken(t, b, api.ErrShort)
	}
}

func TestTakeOfLengthsThatMayNotBe(t *testing.T) { // P3.1: told ahead of bytes that are too few
	for _, n := range []uint32{api.MaxFrame + 1, api.MaxFrame + 255, 2 * api.MaxFrame, 1 << 16, 1<<16 + 3, 1 << 24, 1<<24 + 3, 1 << 31, 1<<31 + 3, 1<<32 - 8, 1<<32 - 1} {
		head := sized(n, nil)[:4]
		untaken(t, head, api.ErrCorrupt)
		untaken(t, append(bytes.Clone(head), 1, 2, 3), api.ErrCorrupt)
		untaken(t, sized(n, nil), api.ErrCorrupt)
		untaken(t, sized(n, []byte("abc")), api.ErrCorrupt)
		if n <= 1<<16+3 { // whole, and well sealed
			untaken(t, sized(n, make([]byte, n)), api.ErrCorrupt)
			untaken(t, joined(sized(n, trial.Mixed(int(n))), framed(nil)), api.ErrCorrupt)
		}
	}
}

func TestTakeCorrupt(t *testing.T) { // P3.1
	for _, x := range texts() {
		b := framed(x)
		for _, behind := range [][]byte{nil, {0}, framed([]byte("next"))} {
			for i := 4; i < len(b); i += 1 + i/50*7 {
				for _, by := range []byte{1, 128, 255} {
					c := joined(b, behind)
					c[i] ^= by
					untaken(t, c, api.ErrCorrupt)
				}
			}
		}
		untaken(t, joined(b[:len(b)-4], sealed(x)[len(x):], []byte{5}), api.ErrCorrupt) // the sum is of the length, too
	}
	for _, b := range [][]byte{make([]byte, 8), {0, 0, 0, 0, 72, 103, 75, 199}, sized(1, nil)} {
		want := api.ErrCorrupt
		if b[3] == 1 {
			want = api.ErrShort
		}
		untaken(t, b, want)
	}
	untaken(t, sized(0, []byte{1}), api.ErrCorrupt) // less than it has
	untaken(t, sized(3, trial.Mixed(5)), api.ErrCorrupt)
	untaken(t, joined(sized(6, trial.Mixed(5)), []byte{8}), api.ErrCorrupt) // more than it has
}

// rows are rows of bytes that frames are made of.
func rows() [][][]byte {
	return [][][]byte{nil, {nil}, {{}, {}}, {[]byte("a"), []byte("b")}, {nil, trial.Mixed(7), nil, {0, 0, 0, 0}}, {trial.Mixed(api.MaxFrame), trial.Mixed(1), trial.Mixed(api.MaxFrame)}, texts()}
}

func TestAllAndOnly(t *testing.T) { // P3.2
	for _, row := range rows() {
		var b []byte
		for _, x := range row {
			b = append(b, framed(x)...)
		}
		if l, n := frame.All(b); !same(l, row) || n != len(b) {
			t.Errorf("All of %d frames of %d bytes: %d of %d", len(row), len(b), len(l), n)
		}
		if l, e := frame.Only(b); e != api.OK || !same(l, row) {
			t.Errorf("Only of %d frames: %d, error %d", len(row), len(l), e)
		}
		for _, end := range []struct {
			b    []byte
			want api.Errno
		}{
			{[]byte{1}, api.ErrShort}, {[]byte{1, 2, 3}, api.ErrShort}, {[]byte{0, 0, 0, 0}, api.ErrShort}, {framed([]byte("cut"))[:10], api.ErrShort},
			{[]byte{0, 0, 16, 0}, api.ErrShort}, {[]byte{0, 0, 16, 1}, api.ErrCorrupt}, {[]byte{255, 255, 255, 255}, api.ErrCorrupt},
			{make([]byte, 8), api.ErrCorrupt}, {make([]byte, 9), api.ErrCorrupt}, {joined(make([]byte, 8), framed(nil)), api.ErrCorrupt},
			{joined(framed([]byte("first"))[1:], framed(nil)), api.ErrShort}, // 0 0 5 and f are a length of 1382
			{joined([]byte{0, 0, 0, 5}, sealed([]byte("first")), framed(nil)), api.ErrCorrupt},
		} {
			all := joined(b, end.b)
			if l, n := frame.All(all); !same(l, row) || n != len(b) {
				t.Errorf("All of %d frames of %d bytes, and %v: %d of %d", len(row), len(b), short(end.b), len(l), n)
			}
			l, e := frame.Only(all)
			lone(t, "Only", all, len(l), e, end.want)
		}
	}
}

func TestAllEndsAtTheFirstThatIsNone(t *testing.T) { // P3.2
	row := [][]byte{[]byte("one"), nil, []byte("three"), []byte("four")}
	for k := range row {
		var b []byte
		at, ends := 0, 0
		for i, x := range row {
			if i == k {
				at = len(b)
			}
			b = append(b, framed(x)...)
			if i == k {
				ends = len(b)
			}
		}
		b[ends-1] ^= 4
		if l, n := frame.All(b); !same(l, row[:k]) || n != at {
			t.Errorf("All, frame %d of which is wrong: %q, %d bytes; want %d", k, l, n, at)
		}
		l, e := frame.Only(b)
		lone(t, "Only", b, len(l), e, api.ErrCorrupt)
	}
}

func TestAllOfOneAndMore(t *testing.T) { // the chapter's example
	b, _ := frame.Put(nil, nil)
	if l, n := frame.All(append(b, 1)); len(l) != 1 || len(l[0]) != 0 || n != 8 {
		t.Errorf("All of a frame of nothing and 1: %v, %d bytes", l, n)
	}
	if l, n := frame.All(nil); len(l) != 0 || n != 0 {
		t.Errorf("All of none: %v, %d bytes", l, n)
	}
	if l, e := frame.Only(nil); len(l) != 0 || e != api.OK {
		t.Errorf("Only of none: %v, error %d", l, e)
	}
}

func TestTurnedBitsAreNoticed(t *testing.T) { // P3.3
	l := trial.Patterns(4)
	for _, x := range [][]byte{nil, {0}, {255}, trial.Mixed(3), make([]byte, 9), []byte("123456789")} {
		b, f := frame.Seal(x), framed(x)
		for _, pattern := range l {
			for at := range 8 * len(b) {
				if c, ok := trial.Turned(b, at, pattern); ok {
					got, e := frame.Unseal(c)
					lone(t, "Unseal", c, len(got), e, api.ErrCorrupt)
				}
			}
			for at := 8 * 4; at < 8*len(f); at++ {
				if c, ok := trial.Turned(f, at, pattern); ok {
					got, rest, e := frame.Take(append(c, 6))
					lone(t, "Take", c, len(got)+len(rest), e, api.ErrCorrupt)
				}
			}
		}
	}
}

// undoes is what a turned bit of Seal of x makes the sum and what stands there differ by: if bits together differ by nothing, they are not noticed.
func undoes(x []byte, at int) uint32 {
	b := frame.Seal(x)
	c, _ := trial.Turned(b, at, 1)
	want := frame.Seal(c[:len(x)])
	var by uint32
	for i := range 4 {
		by |= uint32(want[len(x)+i]^c[len(x)+i]) << (8 * i)
	}
	return by
}

func TestAllBurstsAreNoticed(t *testing.T) { // P3.3: what a bit does no others within Burst do together, from the bytes on to their sum
	for n := range 7 {
		x := trial.Mixed(n)
		for at := range 8*(n+4) - api.Burst + 1 {
			var by []uint32
			for i := range api.Burst {
				by = append(by, undoes(x, at+i))
			}
			if i := trial.Undone(by); i >= 0 {
				t.Errorf("%d bytes, from bit %d on: some of the first %d, turned together, are not noticed", n, at, i+1)
			}
		}
	}
}

// backed is bytes with room behind them that nobody may read or touch: frames that would be told, if it was.
func backed(b []byte) (front, all []byte) {
	all = joined(b, bytes.Repeat(framed(nil), 5))
	return all[:len(b)], all
}

// calls are all calls of one argument; each tells all that it answers, list by list.
func calls() map[string]func(b []byte) [][]byte {
	return map[string]func(b []byte) [][]byte{
		"Seal":   func(b []byte) [][]byte { return [][]byte{frame.Seal(b)} },
		"Unseal": func(b []byte) [][]byte { x, _ := frame.Unseal(b); return [][]byte{x} },
		"Put":    func(b []byte) [][]byte { x, _ := frame.Put(b, []byte("x")); return [][]byte{x} },
		"Put of": func(b []byte) [][]byte { x, _ := frame.Put(nil, b); return [][]byte{x} },
		"Put of both": func(b []byte) [][]byte {
			x, _ := frame.Put(b, b)
			return [][]byte{x}
		},
		"Take": func(b []byte) [][]byte { x, rest, _ := frame.Take(b); return [][]byte{x, rest} },
		"All":  func(b []byte) [][]byte { l, _ := frame.All(b); return l },
		"Only": func(b []byte) [][]byte { l, _ := frame.Only(b); return l },
	}
}

// copied is a list of bytes of its own.
func copied(l [][]byte) [][]byte {
	var out [][]byte
	for _, x := range l {
		out = append(out, bytes.Clone(x))
	}
	return out
}

func TestMemoryIsNotShared(t *testing.T) { // rules 4 and 5
	for name, f := range calls() {
		for _, b := range [][]byte{nil, {0, 0, 0, 0}, trial.Mixed(12), sealed([]byte("abc")), framed([]byte("abc")), joined(framed([]byte("abc")), framed([]byte("de"))), joined(framed([]byte("abc")), []byte{1, 2})} {
			front, all := backed(b)
			was := bytes.Clone(all)
			one, two := f(front), f(front)
			kept := copied(two)
			if !same(one, two) || !bytes.Equal(all, was) {
				t.Errorf("%s of %v: %v, then %v; the argument is %v", name, b, one, two, all)
			}
			for k := range one { // changing one list, and what is behind it, changes no other
				others := copied(one[k+1:])
				for i := range one[k] {
					one[k][i] ^= 255
				}
				one[k] = append(one[k], 1, 2, 3)
				if !same(one[k+1:], others) {
					t.Errorf("%s of %v: lists of one answer share memory", name, b)
				}
			}
			if !bytes.Equal(all, was) || !same(two, kept) {
				t.Errorf("%s of %v: the answer shares memory", name, b)
			}
			for i := range all {
				all[i] ^= 255
			}
			if !same(two, kept) || !same(f(bytes.Clone(b)), kept) {
				t.Errorf("%s of %v: %v, once the argument was changed", name, b, two)
			}
		}
	}
}
