// Package num: numbers as bytes: see doc/01-num.md.
package num

import (
	"strings"

	"vedette/api"
)

const (
	bits    = 7         // of a number in each byte
	more    = 1 << bits // set in a byte behind which another one comes
	longest = 10        // bytes of a number of 64 bits
)

// Put tells n as few bytes as may be, the lowest seven bits first.
func Put(n uint64) string {
	b := make([]byte, 0, longest)
	for ; n >= more; n >>= bits {
		b = append(b, byte(n)|more)
	}
	return string(append(b, byte(n)))
}

// Get reads the number at the beginning of s, and tells how many bytes it takes.
func Get(s string) (uint64, int, api.Errno) {
	n, size, e := uint64(0), 0, api.ErrShort
read:
	for i := range len(s) {
		b := s[i]
		switch {
		case i == longest-1 && b > 1, i > 0 && b == 0:
			// The tenth byte has room for one bit alone, and Put never ends by a 0 that tells nothing.
			e = api.ErrForm
			break read
		case b < more:
			n |= uint64(b) << (bits * i)
			size, e = i+1, api.OK
			break read
		}
		n |= uint64(b-more) << (bits * i)
	}
	if e != api.OK {
		return 0, 0, e
	}
	return n, size, api.OK
}

// Zig makes 0, -1, 1, -2 .. into 0, 1, 2, 3 .., so that small numbers of either sign stay short.
func Zig(n int64) uint64 { return uint64(n)<<1 ^ uint64(n>>63) }

// Zag undoes Zig.
func Zag(u uint64) int64 { return int64(u>>1) ^ -int64(u&1) }

// Int tells n as bytes.
func Int(n int64) string { return Put(Zig(n)) }

// Ints reads what Int told.
func Ints(s string) (int64, int, api.Errno) {
	u, size, e := Get(s)
	return Zag(u), size, e
}

// Text tells how many bytes s has, and s.
func Text(s string) string { return Put(uint64(len(s))) + s }

// Texts reads what Text told, of at most that many bytes, and tells how many bytes it takes in all.
func Texts(s string, most int) (string, int, api.Errno) {
	n, size, e := Get(s)
	if e != api.OK {
		return "", 0, e
	}
	if n > uint64(max(most, 0)) {
		return "", 0, api.ErrLarge
	}
	rest := s[size:]
	if n > uint64(len(rest)) {
		return "", 0, api.ErrShort
	}
	// A copy: a piece of s would share its memory.
	return strings.Clone(rest[:n]), size + int(n), api.OK
}
