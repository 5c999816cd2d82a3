package column

import (
	"math"

	"trellis/number"
)

// tally: what is told of some samples: how many they are, their sum, the least and the greatest; the zero one is that of none.
type tally struct {
	count           int
	sum             float64
	least, greatest float32
}

// one tells the tally of a sample by itself.
func one(x float32) tally { return tally{1, float64(x), x, x} }

// joined tells the tally of samples one behind the other: so a leaf's is made of its samples, and a node's of those of its parts.
func joined(l ...tally) tally {
	var all tally
	for _, t := range l {
		if all.count == 0 || ahead(t.least, all.least) {
			all.least = t.least
		}
		if all.count == 0 || ahead(all.greatest, t.greatest) {
			all.greatest = t.greatest
		}
		all.count += t.count
		// Each step is rounded by itself.
		all.sum = float64(all.sum + t.sum)
	}
	return all
}

// ofSamples tells the tallies of samples, each by itself.
func ofSamples(samples []float32) []tally {
	var l []tally
	for _, x := range samples {
		l = append(l, one(x))
	}
	return l
}

// same tells whether two tallies are, bit by bit: noughts of two signs are not.
func (t tally) same(u tally) bool {
	return t.count == u.count && math.Float64bits(t.sum) == math.Float64bits(u.sum) &&
		math.Float32bits(t.least) == math.Float32bits(u.least) &&
		math.Float32bits(t.greatest) == math.Float32bits(u.greatest)
}

// mayBe tells whether there could be samples of this tally, as far as it tells by itself. What is no number is refused, too: it stands in no order.
func (t tally) mayBe() bool {
	most := float64(float64(t.count) * (1 << 128))
	return t.sum >= -most && t.sum <= most && finite(t.least) && finite(t.greatest) && !ahead(t.greatest, t.least)
}

// ahead tells whether a sample stands ahead of another one.
func ahead(x, y float32) bool { return number.Compare(float64(x), float64(y)) < 0 }

// finite tells whether a float may be a sample.
func finite(x float32) bool { return number.Finite(float64(x)) }
