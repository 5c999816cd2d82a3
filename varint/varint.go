// Package varint: whole numbers below 2^63 in as few bytes as they need: see ../shared/doc/01-varint.md.
package varint

import "trellis/api"

const (
	bits  = 7               // bits of the number in each byte
	more  = 1 << bits       // the bit that says that a further byte comes
	low   = more - 1        // the bits of a byte that are the number's
	limit = uint64(1) << 63 // the first number that has no varint
)

// Lay tells a number's bytes; ErrVarintLong of one of 2^63 or more.
func Lay(n uint64) ([]byte, api.Errno) {
	if n >= limit {
		return nil, api.ErrVarintLong
	}
	b := make([]byte, 0, api.MaxVarint)
next:
	if n >= more {
		b = append(b, byte(n&low)|more)
		n >>= bits
		goto next
	}
	return append(b, byte(n)), api.OK
}

// Len tells how many bytes Lay tells; 0 where it refuses.
func Len(n uint64) int {
	if n >= limit {
		return 0
	}
	size := 1
next:
	if n >= more {
		size++
		n >>= bits
		goto next
	}
	return size
}

// Read tells the number at the front of bytes, and how many bytes it has.
func Read(b []byte) (uint64, int, api.Errno) {
	var n uint64
	used := 0
next:
	// Nine bytes that all go on are too long even if a tenth is missing: so this is asked ahead of the end.
	if used == api.MaxVarint {
		return 0, 0, api.ErrVarintLong
	}
	if used == len(b) {
		return 0, 0, api.ErrVarintShort
	}
	last := b[used]
	n |= uint64(last&low) << (bits * used)
	used++
	if last&more != 0 {
		goto next
	}
	// A last byte of 0 adds nothing, so that the number has a shorter form, unless it is 0 itself.
	if last == 0 && used > 1 {
		return 0, 0, api.ErrVarintForm
	}
	return n, used, api.OK
}
