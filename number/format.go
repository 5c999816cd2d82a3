package number

import "math/bits"

// The limits of the formats of 16, 32 and 64 bits: how many bits the exponent has, and how many the fraction.
const (
	exponent16, fraction16 = 5 + 3*iota, 16<<iota - 6 - 3*iota
	exponent32, fraction32
	exponent64, fraction64
)

// format is a width of floats: how many bits the exponent and the fraction have.
type format struct {
	exponent, fraction int
}

func half() format { return format{exponent16, fraction16} }

func single() format { return format{exponent32, fraction32} }

func double() format { return format{exponent64, fraction64} }

// greatest tells the greatest number that the exponent's bits make.
func (f format) greatest() int { return 1<<f.exponent - 1 }

// lowest tells the power of 2 that the least float above 0 is.
func (f format) lowest() int { return 1 - f.greatest()/2 - f.fraction }

// sign tells the bit of the sign.
func (f format) sign() uint64 { return 1 << (f.exponent + f.fraction) }

// infinity tells the bits of infinity. Those of a finite amount are fewer as a number, those of no number are more.
func (f format) infinity() uint64 { return uint64(f.greatest()) << f.fraction }

// none tells the bits of a float that is no number.
func (f format) none() uint64 { return f.infinity() | 1<<(f.fraction-1) }

// parts tells what a finite amount is: a whole number times 2 to a power.
func (f format) parts(amount uint64) (n uint64, power int) {
	first := uint64(1) << f.fraction
	n = amount & (first - 1)
	exponent := int(amount >> f.fraction)
	if exponent == 0 {
		return n, f.lowest()
	}
	return n | first, f.lowest() + exponent - 1
}

// nearest tells the bits of the float that is nearest to a whole number times 2 to a power.
func (f format) nearest(n uint64, power int) uint64 {
	if n == 0 {
		return 0
	}
	// With the highest bit of 64 set the number has more bits than any float: some are dropped in each case.
	ahead := bits.LeadingZeros64(n)
	n <<= ahead
	power -= ahead
	drop := max(63-f.fraction, f.lowest()-power)
	if drop > 64 {
		return 0
	}
	exponent := power + drop - f.lowest()
	if exponent >= f.greatest()-1 {
		return f.infinity()
	}
	kept, rest := n>>drop, n<<(64-drop)
	if middle := uint64(1) << 63; rest > middle || rest == middle && kept&1 == 1 {
		kept++
	}
	// The number's first bit is not laid beside the exponent but added to it. So, too, a fraction that has become too great goes over into the next exponent, the last one's into infinity.
	return uint64(exponent)<<f.fraction + kept
}

// recast tells the bits of the float of one format that is nearest to a float of another, told by its bits, too.
func recast(float uint64, from, to format) uint64 {
	amount := float &^ from.sign()
	if amount > from.infinity() {
		return to.none()
	}
	out := to.infinity()
	if amount < from.infinity() {
		out = to.nearest(from.parts(amount))
	}
	if amount != float {
		out |= to.sign()
	}
	return out
}
