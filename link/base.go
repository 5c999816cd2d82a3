package link

import (
	"slices"

	"trellis/api"
)

// The letters that tell the bases.
const (
	letter16 = "f"
	letter32 = "b"
	letter58 = "z"
)

// The digits of the bases, from 0 on.
const (
	digits16 = "0123456789abcdef"
	digits32 = "abcdefghijklmnopqrstuvwxyz234567"
	digits58 = "123456789ABCDEFGHJKLMNPQRSTUVWXYZabcdefghijkmnopqrstuvwxyz"
)

// base is a way to write rows of bytes: its letter, its digits, how many bits a digit has (0 if that is no whole number).
type base struct {
	letter, digits string
	bits           int
}

// baseOf tells a base by its number in api; false if it is none of the three.
func baseOf(number int) (base, bool) {
	switch number {
	case api.Base16:
		return base{letter16, digits16, 4}, true
	case api.Base32:
		return base{letter32, digits32, 5}, true
	case api.Base58:
		return base{letter58, digits58, 0}, true
	}
	return base{}, false
}

// text tells a row of bytes written in a base.
func (in base) text(b []byte) string {
	digits := in.cut(b)
	for i, n := range digits {
		digits[i] = in.digits[n]
	}
	return string(digits)
}

// cut tells the numbers of a row's digits.
func (in base) cut(b []byte) []byte {
	if in.bits == 0 {
		return recast(b, 256, len(in.digits))
	}
	out, rest, left := regroup(b, 8, in.bits)
	if left > 0 {
		out = append(out, byte(rest<<(in.bits-left)))
	}
	return out
}

// row tells the row of bytes that a text is in a base; false if it is none.
func (in base) row(s string) ([]byte, bool) {
	digits, ok := in.numbers(s)
	if !ok {
		return nil, false
	}
	if in.bits == 0 {
		return recast(digits, len(in.digits), 256), true
	}
	out, rest, left := regroup(digits, in.bits, 8)
	// A whole digit that is left has not been needed, and the bits that fill the last one are 0: else another text is this row's.
	return out, left < in.bits && rest == 0
}

// numbers tells the numbers of a text's digits; false if one is no digit of the base.
func (in base) numbers(s string) ([]byte, bool) {
	places := in.places()
	out := make([]byte, len(s))
	for i := range len(s) {
		place := places[s[i]]
		if place == 0 {
			return nil, false
		}
		out[i] = place - 1
	}
	return out, true
}

// places tells of each byte which digit it is, counted from 1; 0 if it is none.
func (in base) places() [256]byte {
	var out [256]byte
	for i := range len(in.digits) {
		out[in.digits[i]] = byte(i + 1)
	}
	return out
}

// regroup cuts the bits of a row anew: each number of it has from bits, each of the answer's to; what is left at the end, and how many bits that is.
func regroup(row []byte, from, to int) (out []byte, rest, left int) {
	for _, n := range row {
		rest = rest<<from | int(n)
		left += from
		for left >= to {
			left -= to
			out = append(out, byte(rest>>left))
			rest &= 1<<left - 1
		}
	}
	return out, rest, left
}

// recast tells the number that digits make in one base (the first the highest) by its digits in another, none 0 ahead, but a 0 for each 0 at the front.
func recast(row []byte, from, to int) []byte {
	zeros := 0
	var low []byte // the digits so far, the lowest first
	for _, n := range row {
		carry := int(n)
		for i, digit := range low {
			carry += int(digit) * from
			low[i] = byte(carry % to)
			carry /= to
		}
		for ; carry > 0; carry /= to {
			low = append(low, byte(carry%to))
		}
		if len(low) == 0 {
			zeros++
		}
	}
	slices.Reverse(low)
	return append(make([]byte, zeros, zeros+len(low)), low...)
}
