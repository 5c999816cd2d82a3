package number

import (
	"math"
	"math/big"

	"trellis/api"
)

const (
	most    = 800     // digits that are kept: no number just between two floats has more than 768
	far     = 400     // powers of ten that are farther off lie beyond all floats
	endless = 1 << 56 // where a power stops growing: no text has so many digits that they reach back from there
)

// decimal is what a text tells: the number is the digits, read behind a dot, times 10^point.
type decimal struct {
	minus  bool
	digits []byte // with no 0 ahead; none of a nought
	point  int
}

// Parse tells the float nearest to a text's number; Parse32 the one of 32 bits.
func Parse(s string) (float64, api.Errno) {
	bits, e := parse(s, double())
	return math.Float64frombits(bits), e
}

func Parse32(s string) (float32, api.Errno) {
	bits, e := parse(s, single())
	return math.Float32frombits(uint32(bits)), e
}

// parse tells the bits of the float of a format that is nearest to a text's number.
func parse(s string, f format) (uint64, api.Errno) {
	d, ok := scan(s)
	if !ok {
		return 0, api.ErrNumberText
	}
	bits := d.nearest(f)
	if bits == f.infinity() {
		return 0, api.ErrNumberRange
	}
	if d.minus {
		bits |= f.sign()
	}
	return bits, api.OK
}

// scan goes through a text's parts, from one state to the next; false if it is no decimal.
func scan(s string) (d decimal, ok bool) {
	power, down := 0, false
	left := cursor{s}
	d.minus = left.take('-')
	if left.take('0') {
		goto dot
	}
	if !left.onDigit() {
		goto wrong
	}
whole:
	if left.onDigit() {
		d.keep(left.digit())
		d.point++
		goto whole
	}
dot:
	if !left.take('.') {
		goto mark
	}
	if !left.onDigit() {
		goto wrong
	}
part:
	if left.onDigit() {
		d.keepPart(left.digit())
		goto part
	}
mark:
	if !left.take('e') && !left.take('E') {
		goto end
	}
	if down = left.take('-'); !down {
		left.take('+')
	}
	if !left.onDigit() {
		goto wrong
	}
raise:
	if left.onDigit() {
		power = min(power*10+int(left.digit()-'0'), endless)
		goto raise
	}
end:
	if left.s != "" {
		goto wrong
	}
	if down {
		power = -power
	}
	d.point += power
	return d, true
wrong:
	return decimal{}, false
}

// cursor is what is left of a text.
type cursor struct {
	s string
}

// take goes past a byte, if it is the next one.
func (c *cursor) take(b byte) bool {
	if c.s == "" || c.s[0] != b {
		return false
	}
	c.s = c.s[1:]
	return true
}

// onDigit tells whether the next byte is a digit.
func (c *cursor) onDigit() bool { return c.s != "" && c.s[0] >= '0' && c.s[0] <= '9' }

// digit goes past a byte and tells it.
func (c *cursor) digit() byte {
	b := c.s[0]
	c.s = c.s[1:]
	return b
}

// keep lays a digit behind those that there are.
func (d *decimal) keep(digit byte) {
	if len(d.digits) < most {
		d.digits = append(d.digits, digit)
	} else if len(d.digits) == most && digit != '0' {
		// All that may count of what follows is that it isn't 0, so that the number doesn't lie just between two floats.
		d.digits = append(d.digits, '1')
	}
}

// keepPart keeps a digit that stands behind the dot: a 0 that is ahead of all others moves these.
func (d *decimal) keepPart(digit byte) {
	if digit == '0' && len(d.digits) == 0 {
		d.point--
		return
	}
	d.keep(digit)
}

// nearest tells the bits of the float of a format that is nearest to a decimal's amount.
func (d decimal) nearest(f format) uint64 {
	switch {
	case len(d.digits) == 0 || d.point < -far:
		return 0
	case d.point > far:
		return f.infinity()
	}
	above, _ := new(big.Int).SetString(string(d.digits), 10)
	below := big.NewInt(1)
	if power := d.point - len(d.digits); power < 0 {
		below = tenTo(-power)
	} else {
		above.Mul(above, tenTo(power))
	}
	return f.nearest(quotient(above, below))
}

// quotient tells a quotient's first 63 or 64 bits as a number, and the power of 2 that it is to be taken times. If more bits follow the last one is set: so it lies on the quotient's side of whatever is just between two floats.
func quotient(above, below *big.Int) (n uint64, power int) {
	power = above.BitLen() - below.BitLen() - 63
	if power < 0 {
		above = new(big.Int).Lsh(above, uint(-power))
	} else {
		below = new(big.Int).Lsh(below, uint(power))
	}
	whole, rest := new(big.Int).QuoRem(above, below, new(big.Int))
	n = whole.Uint64()
	if rest.Sign() != 0 {
		n |= 1
	}
	return n, power
}

// tenTo tells a power of ten.
func tenTo(power int) *big.Int {
	return new(big.Int).Exp(big.NewInt(10), big.NewInt(int64(power)), nil)
}
