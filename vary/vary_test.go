package vary_test

import (
	"bytes"
	"cmp"
	"math"
	"strings"
	"testing"

	"creel/api"
	"creel/vary"
)

// numbers are those at which something changes: powers of two, with what stands around them, and some others.
func numbers() []uint64 {
	l := []uint64{0, 300, 1000000, 0x0123456789abcdef, 0xfedcba9876543210, math.MaxUint64}
	for k := range 64 {
		p := uint64(1) << k
		l = append(l, p-1, p, p+1, ^p)
	}
	return l
}

// longhand is P1.1's Put of a number alone, by its words: what is left is divided by 2^7.
func longhand(n uint64) []byte {
	var l []byte
	for ; n > 127; n /= 128 {
		l = append(l, byte(n%128+128))
	}
	return append(l, byte(n))
}

// fronts are bytes that numbers are put behind.
func fronts() [][]byte { return [][]byte{nil, {}, {0}, {128}, {7, 255, 0}} }

// nowhere fails the test, if a call that told an error told anything else.
func nowhere(t *testing.T, what string, b []byte, n uint64, rest []byte, e, want api.Errno) {
	t.Helper()
	if e != want || n != 0 || len(rest) != 0 {
		t.Errorf("%s of %v: %d, %v, error %d; want error %d alone", what, b, n, rest, e, want)
	}
}

// there fails the test, if a call that told OK told another number, or other bytes behind it.
func there(t *testing.T, what string, b []byte, n uint64, rest []byte, e api.Errno, want uint64, behind []byte) {
	t.Helper()
	if e != api.OK || n != want || !bytes.Equal(rest, behind) {
		t.Errorf("%s of %v: %d, %v, error %d; want %d, %v, OK", what, b, n, rest, e, want, behind)
	}
}

func TestPut(t *testing.T) { // P1.1
	for n, want := range map[uint64][]byte{
		0: {0}, 1: {1}, 127: {127}, 128: {128, 1}, 129: {129, 1}, 255: {255, 1}, 256: {128, 2}, 300: {172, 2},
		16383: {255, 127}, 16384: {128, 128, 1}, 2097151: {255, 255, 127}, 2097152: {128, 128, 128, 1},
		1 << 63:        {128, 128, 128, 128, 128, 128, 128, 128, 128, 1},
		1<<63 - 1:      {255, 255, 255, 255, 255, 255, 255, 255, 127},
		math.MaxUint64: {255, 255, 255, 255, 255, 255, 255, 255, 255, 1},
	} {
		if got := vary.Put(nil, n); !bytes.Equal(got, want) {
			t.Errorf("Put of %d: %v, want %v", n, got, want)
		}
	}
	for _, n := range numbers() {
		for _, b := range fronts() {
			want := append(bytes.Clone(b), longhand(n)...)
			if got := vary.Put(b, n); !bytes.Equal(got, want) {
				t.Errorf("Put of %d behind %v: %v, want %v", n, b, got, want)
			}
		}
	}
}

func TestTakeTellsNumbers(t *testing.T) { // P1.1
	for n, b := range map[uint64][]byte{0: {0}, 1: {1}, 127: {127}, 128: {128, 1}, 300: {172, 2}, 1 << 63: {128, 128, 128, 128, 128, 128, 128, 128, 128, 1}} {
		for _, behind := range [][]byte{nil, {0}, {1, 2}, {128}, {255, 255, 255}} {
			all := append(bytes.Clone(b), behind...)
			m, rest, e := vary.Take(all)
			there(t, "Take", all, m, rest, e, n, behind)
		}
	}
}

func TestTakeShort(t *testing.T) { // P1.1: none, or up to nine bytes from 128 on
	for size := range 10 {
		for _, c := range []byte{128, 129, 200, 255} {
			b := bytes.Repeat([]byte{c}, size)
			n, rest, e := vary.Take(b)
			nowhere(t, "Take", b, n, rest, e, api.ErrShort)
		}
	}
	n, rest, e := vary.Take(nil)
	nowhere(t, "Take", nil, n, rest, e, api.ErrShort)
}

func TestTakeCorrupt(t *testing.T) { // P1.1
	corrupt := func(b ...byte) {
		t.Helper()
		n, rest, e := vary.Take(b)
		nowhere(t, "Take", b, n, rest, e, api.ErrCorrupt)
	}
	for _, c := range []byte{128, 129, 255} {
		for size := 10; size < 13; size++ { // the first ten are from 128 on
			corrupt(bytes.Repeat([]byte{c}, size)...)
		}
		for size := 1; size < 10; size++ { // the byte that ends the number is 0, and not the first
			zero := append(bytes.Repeat([]byte{c}, size), 0)
			corrupt(zero...)
			corrupt(append(zero, 5, 6)...)
			corrupt(append(zero, 128)...)
		}
		nine := bytes.Repeat([]byte{c}, 9)
		for tenth := 2; tenth < 256; tenth++ { // the tenth is above 1
			corrupt(append(bytes.Clone(nine), byte(tenth))...)
			corrupt(append(bytes.Clone(nine), byte(tenth), 1)...)
		}
		if _, rest, e := vary.Take(append(nine, 1, 9)); e != api.OK || !bytes.Equal(rest, []byte{9}) {
			t.Errorf("nine of %d, then 1, 9: %v, error %d; want 9, OK", c, rest, e)
		}
	}
}

func TestZig(t *testing.T) { // P1.2
	for n, want := range map[int64]uint64{
		0: 0, -1: 1, 1: 2, -2: 3, 2: 4, -3: 5, 63: 126, -64: 127, 64: 128, -65: 129, 1 << 31: 1 << 32, -1 << 31: 1<<32 - 1,
		math.MaxInt64: math.MaxUint64 - 1, math.MinInt64: math.MaxUint64, math.MinInt64 + 1: math.MaxUint64 - 2,
	} {
		if got := vary.Zig(n); got != want {
			t.Errorf("Zig of %d: %d, want %d", n, got, want)
		}
		if got := vary.Zag(want); got != n {
			t.Errorf("Zag of %d: %d, want %d", want, got, n)
		}
	}
	for n := int64(0); n < 3000; n++ {
		if a, b := vary.Zig(n), vary.Zig(-n-1); a != uint64(2*n) || b != uint64(2*n+1) {
			t.Errorf("Zig of %d and %d: %d, %d", n, -n-1, a, b)
		}
	}
}

func TestZag(t *testing.T) { // P1.2
	for _, n := range numbers() {
		if m := vary.Zag(n); vary.Zig(m) != n || m < 0 != (n%2 == 1) {
			t.Errorf("Zag of %d: %d, whose Zig is %d", n, m, vary.Zig(m))
		}
		if m := int64(n); vary.Zag(vary.Zig(m)) != m {
			t.Errorf("Zag of Zig of %d: %d", m, vary.Zag(vary.Zig(m)))
		}
	}
}

// strange are sizes that no number is laid in.
func strange() []int {
	return []int{0, 9, -1, -8, 10, 16, 64, 256, 257, 264, -256, math.MinInt, math.MaxInt, math.MinInt + 1}
}

func TestFix(t *testing.T) { // P1.3
	if got := vary.Fix(nil, 258, 3); !bytes.Equal(got, []byte{0, 1, 2}) {
		t.Errorf("Fix of 258 in 3: %v", got)
	}
	const n = 0x0123456789abcdef
	for size, want := range []string{"", "\xef", "\xcd\xef", "\xab\xcd\xef", "\x89\xab\xcd\xef", "\x67\x89\xab\xcd\xef", "\x45\x67\x89\xab\xcd\xef",
		"\x23\x45\x67\x89\xab\xcd\xef", "\x01\x23\x45\x67\x89\xab\xcd\xef"} {
		for _, b := range fronts() {
			if got := vary.Fix(b, n, size); string(got) != string(b)+want {
				t.Errorf("Fix of %d in %d behind %v: %v", uint64(n), size, b, got)
			}
		}
	}
	for _, size := range strange() {
		for _, b := range fronts() {
			if got := vary.Fix(b, n, size); !bytes.Equal(got, b) {
				t.Errorf("Fix in %d behind %v: %v", size, b, got)
			}
		}
	}
}

func TestUnfix(t *testing.T) { // P1.3
	b := []byte{1, 35, 69, 103, 137, 171, 205, 239, 200, 0}
	for size, want := range []uint64{1: 0x01, 2: 0x0123, 3: 0x012345, 4: 0x01234567, 5: 0x0123456789, 6: 0x0123456789ab, 7: 0x0123456789abcd, 8: 0x0123456789abcdef} {
		if size == 0 {
			continue
		}
		for end := size; end <= len(b); end++ {
			n, rest, e := vary.Unfix(b[:end], size)
			there(t, "Unfix", b[:end], n, rest, e, want, b[size:end])
		}
		for end := range size { // what is behind the length is not read
			n, rest, e := vary.Unfix(b[:end], size)
			nowhere(t, "Unfix", b[:end], n, rest, e, api.ErrShort)
		}
		n, rest, e := vary.Unfix(nil, size)
		nowhere(t, "Unfix", nil, n, rest, e, api.ErrShort)
	}
	high := bytes.Repeat([]byte{255}, 8)
	n, rest, e := vary.Unfix(high, 8)
	there(t, "Unfix", high, n, rest, e, math.MaxUint64, nil)
}

func TestUnfixOfStrangeSizes(t *testing.T) { // P1.3: ErrArg is told ahead of ErrShort
	for _, size := range strange() {
		for _, b := range [][]byte{nil, {}, {1}, bytes.Repeat([]byte{3}, 8), bytes.Repeat([]byte{3}, 20)} {
			n, rest, e := vary.Unfix(b, size)
			nowhere(t, "Unfix", b, n, rest, e, api.ErrArg)
		}
	}
}

func TestWhatWasPutIsTaken(t *testing.T) { // P1.4
	for _, n := range numbers() {
		for _, behind := range [][]byte{nil, {0}, {128}, {1, 255, 0, 7}} {
			b := append(vary.Put(nil, n), behind...)
			m, rest, e := vary.Take(b)
			there(t, "Take", b, m, rest, e, n, behind)
			for size := 1; size <= 8; size++ {
				b := append(vary.Fix(nil, n, size), behind...)
				m, rest, e := vary.Unfix(b, size)
				there(t, "Unfix", b, m, rest, e, n<<(64-8*size)>>(64-8*size), behind)
			}
		}
		for b, i := vary.Put(nil, n), 0; i < len(b); i++ { // a number that was cut goes on
			m, rest, e := vary.Take(b[:i])
			nowhere(t, "Take", b[:i], m, rest, e, api.ErrShort)
		}
	}
}

func TestNumbersBehindEachOther(t *testing.T) { // P1.4
	var b []byte
	for _, n := range numbers() {
		b = vary.Fix(vary.Put(b, n), n, 8)
	}
	for _, n := range numbers() {
		m, rest, e := vary.Take(b)
		k, rest2, e2 := vary.Unfix(rest, 8)
		if m != n || k != n || e != api.OK || e2 != api.OK {
			t.Fatalf("%d: %d, error %d; %d, error %d", n, m, e, k, e2)
		}
		b = rest2
	}
	if len(b) != 0 {
		t.Errorf("%v is left", b)
	}
}

// fault is the error that P1.1's words say of Take of b.
func fault(b []byte) api.Errno {
	for i, c := range b {
		switch {
		case i == 9 && c > 1, i > 0 && c == 0:
			return api.ErrCorrupt
		case c < 128:
			return api.OK
		}
	}
	return api.ErrShort
}

// check holds Take of b against its words: where it tells a number, b begins with that number's Put.
func check(t *testing.T, b []byte) {
	t.Helper()
	n, rest, e := vary.Take(b)
	if want := fault(b); want != api.OK {
		nowhere(t, "Take", b, n, rest, e, want)
	} else if e != api.OK || !bytes.Equal(append(longhand(n), rest...), b) {
		t.Errorf("Take of %v: %d, %v, error %d", b, n, rest, e)
	}
}

func TestNobodyElsesBytesAreTaken(t *testing.T) { // P1.4
	check(t, nil)
	for i := range 256 {
		check(t, []byte{byte(i)})
		for j := range 256 {
			check(t, []byte{byte(i), byte(j)})
			check(t, []byte{byte(i), byte(j), 0})
			check(t, []byte{byte(i), 128, byte(j)})
		}
	}
	some := []byte{0, 1, 2, 127, 128, 129, 255}
	for size := 7; size <= 9; size++ {
		for _, c := range some[4:] {
			for _, x := range some {
				for _, y := range some {
					for _, z := range some {
						check(t, append(bytes.Repeat([]byte{c}, size), x, y, z))
					}
				}
			}
		}
	}
}

func TestFixKeepsOrder(t *testing.T) { // P1.4
	for size := 1; size <= 8; size++ {
		for _, a := range numbers() {
			for _, b := range numbers() {
				if top := uint64(math.MaxUint64) >> (64 - 8*size); a > top || b > top {
					continue
				}
				if got := bytes.Compare(vary.Fix(nil, a, size), vary.Fix(nil, b, size)); got != cmp.Compare(a, b) {
					t.Errorf("Fix of %d and %d in %d: %d", a, b, size, got)
				}
			}
		}
	}
}

// backed is the first bytes of others, with room behind them that nobody may touch.
func backed(b []byte) (front, all []byte) {
	all = append(bytes.Clone(b), bytes.Repeat([]byte{77}, 40)...)
	return all[:len(b)], all
}

func TestArgumentsStayAsTheyAre(t *testing.T) { // rules 4 and 5, of Put and Fix
	put := map[string]func(b []byte) []byte{
		"Put":      func(b []byte) []byte { return vary.Put(b, 300) },
		"Put0":     func(b []byte) []byte { return vary.Put(b, 0) },
		"Fix":      func(b []byte) []byte { return vary.Fix(b, 300, 3) },
		"Fix none": func(b []byte) []byte { return vary.Fix(b, 300, 0) },
	}
	for name, f := range put {
		for _, b := range fronts() {
			front, all := backed(b)
			was := bytes.Clone(all)
			one, two := f(front), f(front)
			if !bytes.Equal(one, two) || !bytes.Equal(all, was) {
				t.Errorf("%s behind %v: %v, then %v; the argument %v is %v", name, b, one, two, was, all)
			}
			for i := range one {
				one[i] ^= 255
			}
			one = append(one, 1, 2, 3)
			if !bytes.Equal(all, was) || !bytes.Equal(two, f(front)) {
				t.Errorf("%s behind %v: the answer %v shares memory", name, b, one)
			}
		}
	}
}

func TestWhatIsBehindIsNewMemory(t *testing.T) { // rules 4 and 5, of Take and Unfix
	take := map[string]func(b []byte) (uint64, []byte, api.Errno){
		"Take":   vary.Take,
		"Unfix1": func(b []byte) (uint64, []byte, api.Errno) { return vary.Unfix(b, 1) },
		"Unfix2": func(b []byte) (uint64, []byte, api.Errno) { return vary.Unfix(b, 2) },
	}
	for name, f := range take {
		for _, b := range [][]byte{{172, 2}, {172, 2, 3, 4, 5}, {0, 0, 9}} {
			front, all := backed(b)
			was := bytes.Clone(all)
			n, one, _ := f(front)
			_, two, _ := f(front)
			kept := bytes.Clone(two)
			for i := range one {
				one[i] ^= 255
			}
			one = append(one, 1, 2, 3)
			if !bytes.Equal(all, was) || !bytes.Equal(two, kept) {
				t.Errorf("%s of %v: the answer %v shares memory", name, b, one)
			}
			for i := range all {
				all[i] ^= 255
			}
			if m, rest, e := f(b); !bytes.Equal(two, kept) || m != n || !bytes.Equal(rest, kept) || e != api.OK {
				t.Errorf("%s of %v: %v, once the argument was changed", name, b, two)
			}
		}
	}
}

func TestWhatIsBehindTheLengthIsNotRead(t *testing.T) { // rule 4
	b := vary.Put(nil, math.MaxUint64)
	for i := range b {
		n, rest, e := vary.Take(b[:i])
		nowhere(t, "Take", b[:i], n, rest, e, api.ErrShort)
	}
	if n, rest, e := vary.Take([]byte(strings.Repeat("\x05", 9))[:1]); n != 5 || len(rest) != 0 || e != api.OK {
		t.Errorf("Take of 5, cut: %d, %v, error %d", n, rest, e)
	}
}
