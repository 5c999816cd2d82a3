package trie

import (
	"slices"

	"trellis/api"
)

// place: where a node stands: the widths of its trie, and the slices above it that all of its keys have.
type place struct {
	widths api.Trie
	above  []int
}

// mayBe tells whether a trie may have these widths.
func mayBe(c api.Trie) bool {
	return within(c.Width, api.MaxWidth) && within(c.Bucket, api.MaxBucket) && within(c.Bytes, api.MaxBytes)
}

// within tells whether a number is from 1 to the greatest one.
func within(n, greatest int) bool { return n >= 1 && n <= greatest }

// levels tells how many levels a trie has.
func levels(c api.Trie) int { return 8 * c.Bytes / c.Width }

// fanOut tells how many slices there are at a level.
func fanOut(c api.Trie) int { return 1 << c.Width }

// sliceOf tells a path's slice of a level: Width bits from bit level * Width on, the first one the highest.
func sliceOf(path [32]byte, width, level int) int {
	n := 0
	for bit := level * width; bit < (level+1)*width; bit++ {
		n = n<<1 | int(path[bit/8]>>(7-bit%8)&1)
	}
	return n
}

// below tells the place of the node behind a slice.
func (p place) below(slice int) place {
	return place{p.widths, append(slices.Clone(p.above), slice)}
}

// isTop tells whether the node is a root.
func (p place) isTop() bool { return len(p.above) == 0 }

// isLast tells whether there is no level below.
func (p place) isLast() bool { return len(p.above) == levels(p.widths)-1 }

// mayBe tells whether a node below the top can stand there.
func (p place) mayBe() bool {
	if !mayBe(p.widths) || len(p.above) >= levels(p.widths) {
		return false
	}
	return !slices.ContainsFunc(p.above, func(slice int) bool { return slice < 0 || slice >= fanOut(p.widths) })
}

// takes tells whether a key of this path belongs to what the node has for a slice.
func (p place) takes(path [32]byte, slice int) bool {
	for level, above := range p.above {
		if sliceOf(path, p.widths.Width, level) != above {
			return false
		}
	}
	return p.slice(path) == slice
}

// slice tells a path's slice of the node's level.
func (p place) slice(path [32]byte) int { return sliceOf(path, p.widths.Width, len(p.above)) }
