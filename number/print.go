package number

import (
	"math"
	"math/big"
	"math/bits"
	"strconv"
	"strings"
)

// The points at which a text has no power behind an e.
const (
	lowestPoint  = -5
	highestPoint = 21
)

// Print tells a float's text; Print32 that of one of 32 bits.
func Print(x float64) string { return text(math.Float64bits(x), double()) }

func Print32(x float32) string { return text(uint64(math.Float32bits(x)), single()) }

// text tells the text of a format's float by its bits.
func text(float uint64, f format) string {
	amount := float &^ f.sign()
	if amount > f.infinity() {
		return "nan"
	}
	out := "inf"
	if amount < f.infinity() {
		out = set(f.shortest(amount))
	}
	if amount != float {
		out = "-" + out
	}
	return out
}

// set tells digits as a decimal, with the dot where the point says.
func set(digits string, point int) string {
	n := len(digits)
	switch {
	case point >= lowestPoint && point <= 0:
		return "0." + strings.Repeat("0", -point) + digits
	case point > 0 && point < n:
		return digits[:point] + "." + digits[point:]
	case point >= n && point <= highestPoint:
		return digits + strings.Repeat("0", point-n) + ".0"
	}
	power := "e" + strconv.Itoa(point-1)
	if n == 1 {
		return digits + power
	}
	return digits[:1] + "." + digits[1:] + power
}

// shortest tells the fewest digits that are read as an amount, and their point.
func (f format) shortest(amount uint64) (string, int) {
	if amount == 0 {
		return "0", 1
	}
	s := f.span(amount)
	point := s.scale(f.guess(amount))
	var digits []byte
	for {
		digits = append(digits, s.digit())
		down, up := s.ends()
		if !down && !up {
			continue
		}
		last := len(digits) - 1
		if !up || down && !s.upward(digits[last]) {
			return string(digits), point
		}
		// Only a first digit can be a 9 here: with one behind another, the digits ahead would have sufficed.
		if digits[last] == '9' {
			return "1", point + 1
		}
		digits[last]++
		return string(digits), point
	}
}

// guess tells about which point an amount has.
func (f format) guess(amount uint64) int {
	n, power := f.parts(amount)
	return (bits.Len64(n)+power)*30103/100000 + 1
}

// span is what is left of a float's number behind the digits that have been taken, above / below, and how far from it on both sides numbers are read as the float, up / below and down / below.
type span struct {
	above, below, up, down *big.Int
	even                   bool // those just between two floats are read as this one
}

// span tells the whole of an amount as a span.
func (f format) span(amount uint64) span {
	n, power := f.parts(amount)
	// By quarters, as the float below a power of 2 is only half as far away: halfway there is a quarter.
	s := span{
		above: new(big.Int).SetUint64(4 * n),
		below: big.NewInt(4),
		up:    big.NewInt(2),
		down:  big.NewInt(2),
		even:  n%2 == 0,
	}
	if n == 1<<f.fraction && power > f.lowest() {
		s.down = big.NewInt(1)
	}
	if power < 0 {
		s.below.Lsh(s.below, uint(-power))
	} else {
		s.times(new(big.Int).Lsh(big.NewInt(1), uint(power)))
	}
	return s
}

// times takes what stands above the line times a number.
func (s *span) times(n *big.Int) {
	s.above.Mul(s.above, n)
	s.up.Mul(s.up, n)
	s.down.Mul(s.down, n)
}

// scale divides a span by that power of ten with which it is from 0.1 on and below 1, and tells the power. The guess only makes this fast.
func (s *span) scale(guess int) int {
	point := guess
	if point < 0 {
		s.times(tenTo(-point))
	} else {
		s.below.Mul(s.below, tenTo(point))
	}
	ten := big.NewInt(10)
	for s.above.Cmp(s.below) >= 0 {
		s.below.Mul(s.below, ten)
		point++
	}
	for new(big.Int).Mul(s.above, ten).Cmp(s.below) < 0 {
		s.times(ten)
		point--
	}
	return point
}

// digit takes the next digit off a span.
func (s *span) digit() byte {
	s.times(big.NewInt(10))
	digit, rest := new(big.Int).QuoRem(s.above, s.below, new(big.Int))
	s.above = rest
	return '0' + byte(digit.Uint64())
}

// ends tells whether the digits so far are read as the float, and whether they are with the last one raised by one.
func (s *span) ends() (down, up bool) {
	top := new(big.Int).Add(s.above, s.up)
	return s.within(s.above.Cmp(s.down)), s.within(s.below.Cmp(top))
}

// within tells whether a distance that is so compared with the farthest one is near enough.
func (s *span) within(compared int) bool { return compared < 0 || compared == 0 && s.even }

// upward tells whether the float is nearer to its digits with the last one raised, or as near and that one is even.
func (s *span) upward(last byte) bool {
	compared := new(big.Int).Lsh(s.above, 1).Cmp(s.below)
	return compared > 0 || compared == 0 && last%2 == 1
}
