// Package trial is what the tests of several layers share; no layer calls it.
package trial

import (
	"bytes"
	"math/bits"

	"creel/api"
)

// Mixed is so many bytes that look like none in particular, the same each time.
func Mixed(n int) []byte {
	b := make([]byte, max(n, 0))
	x := uint32(2463534242)
	for i := range b {
		x ^= x << 13
		x ^= x >> 17
		x ^= x << 5
		b[i] = byte(x >> 11)
	}
	return b
}

// Texts is all texts of up to so many of some bytes, the shorter ones ahead.
func Texts(some string, size int) [][]byte {
	all := [][]byte{nil}
	for from := 0; size > 0; size-- {
		till := len(all)
		for _, b := range all[from:till] {
			for k := range len(some) {
				all = append(all, append(bytes.Clone(b), some[k]))
			}
		}
		from = till
	}
	return all
}

// Patterns is bits within Burst side by side, the lowest of which is turned: of every length all, the ends, and so many that look like none in particular.
func Patterns(some int) []uint32 {
	l := []uint32{1}
	noise := Mixed(4 * api.Burst * some)
	for size := 2; size <= api.Burst; size++ {
		ends := uint32(1) | 1<<(size-1)
		l = append(l, ends, uint32(1<<size-1))
		for range some {
			n := uint32(noise[0])<<24 | uint32(noise[1])<<16 | uint32(noise[2])<<8 | uint32(noise[3])
			noise = noise[4:]
			l = append(l, n>>(api.Burst-size)|ends)
		}
	}
	return l
}

// Turned is bytes of which the bits of a pattern are turned, from the bit at on, of each byte the lowest first; false, if one of them is not there.
func Turned(b []byte, at int, pattern uint32) ([]byte, bool) {
	if at < 0 || at > 8*len(b)-bits.Len32(pattern) {
		return nil, false
	}
	out := bytes.Clone(b)
	for ; pattern != 0; pattern &= pattern - 1 {
		bit := at + bits.TrailingZeros32(pattern)
		out[bit/8] ^= 1 << (bit % 8)
	}
	return out, true
}

// Undone is the place of the first number that is what some of those ahead are together (XOR), none of them among these; -1, if there is none.
func Undone(l []uint32) int {
	var led [32]uint32 // by their highest bit: what some of them are together
	for i, n := range l {
		for n != 0 {
			k := bits.Len32(n) - 1
			if led[k] == 0 {
				led[k] = n
				break
			}
			n ^= led[k]
		}
		if n == 0 {
			return i
		}
	}
	return -1
}
