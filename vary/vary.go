// Package vary is layer 1: numbers as bytes, few for small ones, or so many (shared/doc/01-vary.md).
package vary

import "creel/api"

const (
	bits  = 7         // bits of a number that a byte of Put has
	more  = 1 << bits // what a byte has besides, if another one follows
	last  = 9         // the place of the last byte that a number of 64 bits may have
	whole = 8         // bytes of a number of 64 bits
)

// Put is a number, as few bytes as there may be, behind others.
func Put(b []byte, n uint64) []byte {
	out := roomy(b, last+1)
	for n >= more {
		out = append(out, byte(n)|more)
		n >>= bits
	}
	return append(out, byte(n))
}

// Take is the number that bytes begin with, and the others.
func Take(b []byte) (uint64, []byte, api.Errno) {
	var n uint64
	behind := 0 // stays 0 as long as no byte ends the number
digits:
	for i, c := range b {
		n |= uint64(c%more) << (bits * i)
		switch {
		case i == last && c > 1: // beyond 64 bits
			return 0, nil, api.ErrCorrupt
		case i > 0 && c == 0: // Put ends such a number a byte ahead
			return 0, nil, api.ErrCorrupt
		case c < more:
			behind = i + 1
			break digits
		}
	}
	if behind == 0 {
		return 0, nil, api.ErrShort
	}
	return n, roomy(b[behind:], 0), api.OK
}

// Zig is a number that may be below 0, as one that is not.
func Zig(n int64) uint64 {
	twice := uint64(n) << 1
	if n < 0 {
		return ^twice // -2n - 1, without going beyond 64 bits
	}
	return twice
}

// Zag is that back.
func Zag(n uint64) int64 {
	half := int64(n >> 1)
	if n%2 == 1 {
		return ^half
	}
	return half
}

// Fix is a number in so many bytes, the highest first, behind others.
func Fix(b []byte, n uint64, size int) []byte {
	if !sized(size) {
		return roomy(b, 0)
	}
	out := roomy(b, size)
	for k := size - 1; k >= 0; k-- {
		out = append(out, byte(n>>(8*k)))
	}
	return out
}

// Unfix is the number that so many bytes are, and the others.
func Unfix(b []byte, size int) (uint64, []byte, api.Errno) {
	if !sized(size) {
		return 0, nil, api.ErrArg
	}
	if len(b) < size {
		return 0, nil, api.ErrShort
	}
	var n uint64
	for _, c := range b[:size] {
		n = n<<8 | uint64(c)
	}
	return n, roomy(b[size:], 0), api.OK
}

// sized tells whether a number may be laid in so many bytes.
func sized(size int) bool { return 1 <= size && size <= whole }

// roomy is new memory, so that neither what was handed in nor the room behind it is shared.
func roomy(b []byte, room int) []byte {
	return append(make([]byte, 0, len(b)+room), b...)
}
