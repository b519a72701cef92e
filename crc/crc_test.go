package crc_test

import (
	"bytes"
	"hash/crc32"
	"math"
	"strings"
	"testing"

	"creel/api"
	"creel/crc"
	"creel/trial"
)

// longhand is P2.1's Add by its words, without a table that is kept: each number of it is worked out where it is asked.
func longhand(sum uint32, b []byte) uint32 {
	c := math.MaxUint32 ^ sum
	for _, x := range b {
		c = entry((c^uint32(x))%256) ^ c/256
	}
	return math.MaxUint32 ^ c
}

// entry is P2.1's number of the table at i.
func entry(i uint32) uint32 {
	for step := 0; step < 8; step++ {
		if i%2 == 1 {
			i = i/2 ^ 2197175160
		} else {
			i /= 2
		}
	}
	return i
}

// texts are bytes of several kinds, none among them.
func texts() [][]byte {
	l := [][]byte{nil, {}, {0}, {1}, {128}, {255}, {0, 0}, {0, 0, 0, 0}, {255, 255, 255, 255}, {255, 255, 255, 255, 0},
		[]byte("123456789"), []byte("creel"), []byte("a b\nb c\n"), bytes.Repeat([]byte{0}, 100), bytes.Repeat([]byte{255}, 100)}
	for _, n := range []int{2, 3, 5, 8, 31, 32, 33, 255, 256, 257, 1000} {
		l = append(l, trial.Mixed(n))
	}
	return l
}

func TestTable(t *testing.T) { // P2.1
	table := crc.Table()
	for i, want := range map[int]uint32{0: 0, 1: 0xf26b8303, 2: 0xe13b70f7, 3: 0x1350f3f4, 128: 2197175160, 254: 0x5f16d052, 255: 0xad7d5351} {
		if table[i] != want {
			t.Errorf("table at %d: %x, want %x", i, table[i], want)
		}
	}
	known := crc32.MakeTable(crc32.Castagnoli)
	for i, n := range table {
		if n != entry(uint32(i)) || n != known[i] {
			t.Errorf("table at %d: %x, want %x, as is known %x", i, n, entry(uint32(i)), known[i])
		}
	}
}

func TestTableIsTheCallersOwn(t *testing.T) { // rule 5
	one := crc.Table()
	for i := range one {
		one[i] = 7
	}
	if two := crc.Table(); two[1] != 0xf26b8303 || two == one {
		t.Errorf("a table behind one that was changed: %x at 1", two[1])
	}
	if got := crc.Sum([]byte("123456789")); got != 3808858755 {
		t.Errorf("Sum behind a table that was changed: %d", got)
	}
}

func TestSum(t *testing.T) { // P2.1
	rising, falling := make([]byte, 32), make([]byte, 32)
	for i := range rising {
		rising[i], falling[31-i] = byte(i), byte(i)
	}
	for _, x := range []struct {
		b    []byte
		want uint32
	}{
		{nil, 0}, {[]byte{}, 0}, {[]byte("123456789"), 3808858755}, {[]byte("a"), 0xc1d04330}, {[]byte{0}, 0x527d5351},
		{make([]byte, 32), 0x8a9136aa}, {bytes.Repeat([]byte{255}, 32), 0x62a8ab43}, {rising, 0x46dd794e}, {falling, 0x113fdb5c},
		{[]byte{255, 255, 255, 255}, 0xffffffff}, {[]byte{0, 0, 0, 0}, 1214729159},
	} {
		if got := crc.Sum(x.b); got != x.want {
			t.Errorf("Sum of %v: %x, want %x", x.b, got, x.want)
		}
	}
}

func TestSumOfManyBytes(t *testing.T) { // P2.1
	known := crc32.MakeTable(crc32.Castagnoli)
	l := append(texts(), trial.Mixed(api.MaxFrame), trial.Mixed(70000))
	for i := range 256 {
		l = append(l, []byte{byte(i)}, []byte{7, byte(i)}, []byte{byte(i), 0, 255})
	}
	for _, b := range l {
		if got, want := crc.Sum(b), longhand(0, b); got != want || got != crc32.Checksum(b, known) {
			t.Errorf("Sum of %d bytes: %x, want %x, as is known %x", len(b), got, want, crc32.Checksum(b, known))
		}
	}
}

func TestAdd(t *testing.T) { // P2.1: of any sum, also one that no bytes are known to have
	for _, sum := range []uint32{0, 1, 2, 255, 256, 1 << 31, 1<<31 - 1, 2197175160, 3808858755, 0x01234567, math.MaxUint32 - 1, math.MaxUint32} {
		for _, b := range texts() {
			if got, want := crc.Add(sum, b), longhand(sum, b); got != want {
				t.Errorf("Add of %x and %v: %x, want %x", sum, b, got, want)
			}
		}
		if crc.Add(sum, nil) != sum || crc.Add(sum, []byte{}) != sum {
			t.Errorf("Add of %x and none: %x, %x", sum, crc.Add(sum, nil), crc.Add(sum, []byte{}))
		}
	}
	if got := crc.Add(0, []byte{0}); got != 0x527d5351 {
		t.Errorf("Add of 0 and a byte of 0: %x", got)
	}
}

func TestAddGoesOn(t *testing.T) { // P2.2
	for _, b := range texts() {
		whole := crc.Sum(b)
		bytewise := crc.Sum(nil)
		for i := range len(b) + 1 {
			if got := crc.Add(crc.Sum(b[:i]), b[i:]); got != whole {
				t.Errorf("Sum of %d bytes, then Add of %d: %x, want %x", i, len(b)-i, got, whole)
			}
			if i < len(b) {
				bytewise = crc.Add(bytewise, b[i:i+1])
			}
		}
		if bytewise != whole {
			t.Errorf("Add of %d bytes, one by one: %x, want %x", len(b), bytewise, whole)
		}
	}
	for _, a := range texts() {
		for _, b := range texts() {
			both := append(bytes.Clone(a), b...)
			if got := crc.Add(crc.Sum(a), b); got != crc.Sum(both) {
				t.Errorf("Add of Sum of %v and %v: %x, want %x", a, b, got, crc.Sum(both))
			}
		}
	}
}

// patterns are bits within Burst side by side, and those that would not be noticed, were they not 33 (the constant's behind another one), without the last, and without the first.
func patterns() []uint32 {
	return append(trial.Patterns(40), 2197175160<<1&math.MaxUint32|1, 2197175160>>3)
}

func TestTurnedBitsAreNoticed(t *testing.T) { // P2.2
	l := patterns()
	for _, b := range [][]byte{{0}, {255}, trial.Mixed(2), trial.Mixed(4), trial.Mixed(5), make([]byte, 9), bytes.Repeat([]byte{255}, 9), []byte("123456789"), trial.Mixed(40)} {
		sum := crc.Sum(b)
		for at := range 8 * len(b) {
			for _, pattern := range l {
				if other, ok := trial.Turned(b, at, pattern); ok && crc.Sum(other) == sum {
					t.Errorf("%v and %v have one Sum, %x", b, other, sum)
				}
			}
		}
	}
}

func TestShortBurstsAreNoticed(t *testing.T) { // P2.2: all of them up to 12 bits, wherever
	b := trial.Mixed(6)
	sum := crc.Sum(b)
	for at := range 8 * len(b) {
		for pattern := uint32(1); pattern < 1<<12; pattern += 2 {
			if other, ok := trial.Turned(b, at, pattern); ok && crc.Sum(other) == sum {
				t.Errorf("%v and %v have one Sum, %x", b, other, sum)
			}
		}
	}
}

func TestAllBurstsAreNoticed(t *testing.T) { // P2.2: what a bit does to the Sum no others within Burst do together, so none undo each other
	for at := range 8 {
		b := trial.Mixed(5)
		sum := crc.Sum(b)
		var by []uint32 // what each of them does to the Sum
		for i := range api.Burst {
			other, ok := trial.Turned(b, at+i, 1)
			if !ok {
				t.Fatalf("bit %d from %d on is none", i, at)
			}
			by = append(by, sum^crc.Sum(other))
		}
		if i := trial.Undone(by); i >= 0 {
			t.Errorf("from bit %d on: some of the first %d, turned together, are not noticed", at, i+1)
		}
	}
}

func TestArgumentsStayAsTheyAre(t *testing.T) { // rule 4: nor is what is behind the length read
	for _, b := range texts() {
		all := append(bytes.Clone(b), bytes.Repeat([]byte{77}, 40)...)
		was := bytes.Clone(all)
		sum, more := crc.Sum(all[:len(b)]), crc.Add(99, all[:len(b)])
		if !bytes.Equal(all, was) || sum != longhand(0, b) || more != longhand(99, b) {
			t.Errorf("Sum and Add of %v, with room behind: %x, %x", b, sum, more)
		}
	}
}

func TestTheSameEachTime(t *testing.T) { // rule 6
	b := []byte(strings.Repeat("creel ", 50))
	sum, table := crc.Sum(b), crc.Table()
	for range 3 {
		crc.Add(5, b[:7])
		if crc.Sum(b) != sum || crc.Add(0, b) != sum || crc.Table() != table {
			t.Errorf("another Sum: %x, at first %x", crc.Sum(b), sum)
		}
	}
}
