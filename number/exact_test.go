package number

import (
	"math"
	"math/big"
	"slices"
	"sort"
	"strings"

	"trellis/sample"
)

// What stands in this file is a plain second reading of the chapter, by whole numbers of any size.

// width is a format: how many bits its exponent and its fraction have.
type width struct {
	exponent, fraction int
}

var w16, w32, w64 = width{5, 10}, width{8, 23}, width{11, 52}

// greatest tells the chapter's E; bias its b.
func (w width) greatest() int { return 1<<w.exponent - 1 }

func (w width) bias() int { return w.greatest() / 2 }

// sign tells the bit of the sign; infinity the bits of infinity.
func (w width) sign() uint64 { return 1 << (w.exponent + w.fraction) }

func (w width) infinity() uint64 { return uint64(w.greatest()) << w.fraction }

// shift tells of which power of 2 each float is so many times: of 2^-shift.
func (w width) shift() int { return w.bias() + w.fraction - 1 }

// units tells how many times 2^-shift a float's amount is; infinity's is 2^(b+1).
func (w width) units(amount uint64) *big.Int {
	e, f := amount>>w.fraction, amount%(1<<w.fraction)
	if e == 0 {
		return new(big.Int).SetUint64(f)
	}
	n := new(big.Int).SetUint64(1<<w.fraction + f)
	return n.Lsh(n, uint(e-1))
}

// fraction is a number, above / below.
type fraction struct {
	above, below *big.Int
}

// number tells a float's amount.
func (w width) number(amount uint64) fraction {
	return fraction{w.units(amount), new(big.Int).Lsh(big.NewInt(1), uint(w.shift()))}
}

// decimally tells the number that digits are, times 10^power.
func decimally(digits string, power int) fraction {
	n, ok := new(big.Int).SetString(digits, 10)
	if !ok {
		panic("no digits: " + digits)
	}
	if power < 0 {
		return fraction{n, ten(-power)}
	}
	return fraction{n.Mul(n, ten(power)), big.NewInt(1)}
}

func ten(power int) *big.Int {
	return new(big.Int).Exp(big.NewInt(10), big.NewInt(int64(power)), nil)
}

// against tells how a number stands to so many halves of 2^-shift.
func (w width) against(x fraction, halves *big.Int) int {
	one := new(big.Int).Lsh(x.above, uint(w.shift()+1))
	return one.Cmp(new(big.Int).Mul(halves, x.below))
}

// between tells the middle of a float and the next one, in halves of 2^-shift.
func (w width) between(amount uint64) *big.Int {
	return new(big.Int).Add(w.units(amount), w.units(amount+1))
}

// nearest tells the float that is nearest to a number, by a search among all.
func (w width) nearest(x fraction) uint64 {
	whole := new(big.Int).Lsh(x.above, uint(w.shift()))
	whole.Quo(whole, x.below)
	// The last float that is not above the number: no float lies between this and its whole part in units.
	low := uint64(sort.Search(int(w.infinity()), func(i int) bool { return w.units(uint64(i)+1).Cmp(whole) > 0 }))
	if low == w.infinity() {
		return low
	}
	c := w.against(x, w.between(low))
	if c > 0 || c == 0 && low%2 == 1 {
		return low + 1
	}
	return low
}

// reads tells whether a number is nearest to just this float.
func (w width) reads(x fraction, amount uint64) bool {
	even := amount%2 == 0
	if c := w.against(x, w.between(amount)); c > 0 || c == 0 && !even {
		return false
	}
	if amount == 0 {
		return true
	}
	c := w.against(x, w.between(amount-1))
	return c > 0 || c == 0 && even
}

// digits tells what P5.9 calls a float's digits, and k: by trying all that are near, one digit, two digits and so on.
func (w width) digits(amount uint64) (string, int) {
	if amount == 0 {
		return "0", 1
	}
	x := w.number(amount)
	at := place(x)
	for n := 1; ; n++ {
		best, k := "", 0
		for _, power := range []int{at - n - 1, at - n, at - n + 1} {
			first := floor(x, power)
			for step := int64(-2); step <= 3; step++ {
				row := new(big.Int).Add(first, big.NewInt(step))
				s := strings.TrimRight(row.String(), "0")
				if row.Sign() <= 0 || len(s) != n || !w.reads(decimally(row.String(), power), amount) {
					continue
				}
				point := len(row.String()) + power
				if best == "" || better(x, s, point, best, k) {
					best, k = s, point
				}
			}
		}
		if best != "" {
			return best, k
		}
	}
}

// place tells how many digits stand ahead of a number's dot; if none, how many noughts behind it, with a minus.
func place(x fraction) int {
	// With so many digits above and below the line, it is this one or the next.
	k := len(x.above.String()) - len(x.below.String())
	if less(x, decimally("1", k)) {
		return k
	}
	return k + 1
}

func less(x, y fraction) bool {
	return new(big.Int).Mul(x.above, y.below).Cmp(new(big.Int).Mul(y.above, x.below)) < 0
}

// floor tells how many whole times a number is 10^power.
func floor(x fraction, power int) *big.Int {
	if power < 0 {
		n := new(big.Int).Mul(x.above, ten(-power))
		return n.Quo(n, x.below)
	}
	return new(big.Int).Quo(x.above, new(big.Int).Mul(x.below, ten(power)))
}

// off tells how far digits behind a dot, times 10^k, are from a number.
func off(x fraction, digits string, k int) fraction {
	y := decimally(digits, k-len(digits))
	d := new(big.Int).Sub(new(big.Int).Mul(x.above, y.below), new(big.Int).Mul(y.above, x.below))
	return fraction{d.Abs(d), new(big.Int).Mul(x.below, y.below)}
}

// better tells whether the one row of digits is to be taken ahead of the other.
func better(x fraction, s string, k int, than string, thanK int) bool {
	one, two := off(x, s, k), off(x, than, thanK)
	if less(one, two) || less(two, one) {
		return less(one, two)
	}
	return strings.ContainsAny(s[len(s)-1:], "2468")
}

// written tells digits and k as P5.9 sets them: a row of noughts about them, in which the dot is set.
func written(digits string, k int) string {
	n := len(digits)
	if k < -5 || k > max(n-1, 21) {
		mantissa := digits[:1]
		if n > 1 {
			mantissa += "." + digits[1:]
		}
		return mantissa + "e" + big.NewInt(int64(k-1)).String()
	}
	row := strings.Repeat("0", 30) + digits + strings.Repeat("0", 30)
	whole, part := strings.TrimLeft(row[:30+k], "0"), strings.TrimRight(row[30+k:], "0")
	if whole == "" {
		whole = "0"
	}
	if part == "" {
		part = "0"
	}
	return whole + "." + part
}

// printed tells the text of a float by its bits.
func (w width) printed(float uint64) string {
	amount := float % w.sign()
	text := "inf"
	if amount > w.infinity() {
		return "nan"
	}
	if amount < w.infinity() {
		text = written(w.digits(amount))
	}
	if amount != float {
		text = "-" + text
	}
	return text
}

// edges tells the finite amounts of a width about which something changes: the least and the greatest, those about each power of 2.
func (w width) edges() []uint64 {
	out := []uint64{0, 1, 2, 3, 4, 5, 9, 10, 19, 20}
	for e := uint64(1); e <= uint64(w.greatest()); e++ {
		first := e << w.fraction
		out = append(out, first-2, first-1)
		if e < uint64(w.greatest()) {
			out = append(out, first, first+1, first+2)
		}
	}
	for n := uint64(1); n < 1<<w.fraction; n *= 2 {
		out = append(out, n, n+1, n-1)
	}
	slices.Sort(out)
	return slices.Compact(out)
}

// fewer tells some of the edges: those at both ends, and in between every seventh, so that all of the five about a power of 2 come in turn.
func fewer(edges []uint64) []uint64 {
	var out []uint64
	for i, amount := range edges {
		if i%7 == 0 || i < 300 || i > len(edges)-100 {
			out = append(out, amount)
		}
	}
	return out
}

// some tells so many finite amounts of a width, of all exponents.
func (w width) some(n int, from *sample.Dice) []uint64 {
	out := make([]uint64, n)
	for i := range out {
		out[i] = from.Next() % w.infinity()
	}
	return out
}

var (
	infinite = math.Inf(1)
	minus    = math.Copysign(0, -1)
)

// nones tells the bits of floats of 64 bits that are no number: with and without the sign, loud and quiet.
func nones() []float64 {
	var out []float64
	for _, bits := range []uint64{0x7ff0000000000001, 0x7ff8000000000000, 0x7ff8000000000001, 0x7fffffffffffffff, 0xfff0000000000001, 0xfff8000000000000, 0xffffffffffffffff, 0x7ff0000020000000, 0xfff00000dead0000} {
		out = append(out, math.Float64frombits(bits))
	}
	return out
}
