package column

import "trellis/api"

// entry: what stands of a part above it: its link and its tally; the zero one is that of no part.
type entry struct {
	link api.Link
	tally
}

// part: a leaf, which is of level 1 and has samples; or a node, which has the entries of its parts.
type part struct {
	level   int
	samples []float32
	entries []entry
}

// tally tells what the part's entry should tell.
func (p part) tally() tally {
	if p.level == 1 {
		return joined(ofSamples(p.samples)...)
	}
	var l []tally
	for _, x := range p.entries {
		l = append(l, x.tally)
	}
	return joined(l...)
}

// sizeOf tells how many samples a full part of a level has.
func sizeOf(width, level int) int { return 1 << (width * level) }

// levelsOf tells how many levels so many samples have.
func levelsOf(width, count int) int {
	if count == 0 {
		return 0
	}
	level := 1
	for sizeOf(width, level) < count {
		level++
	}
	return level
}

// span: the places from one up to another, counted from a part's first.
type span struct{ from, to int }

// isEmpty tells whether no place stands there.
func (w span) isEmpty() bool { return w.from >= w.to }

// inner tells a span as it is counted within a part that begins at a place and has so many samples.
func (w span) inner(at, count int) span { return span{max(w.from-at, 0), min(w.to-at, count)} }

// piece: a node's part that has samples of a span, and which places of its own these have.
type piece struct {
	entry
	where span
}

// pieces tells a node's parts that have samples of a span.
func (p part) pieces(width int, where span) []piece {
	var l []piece
	for i, x := range p.entries {
		w := where.inner(i*sizeOf(width, p.level-1), x.count)
		if !w.isEmpty() {
			l = append(l, piece{x, w})
		}
	}
	return l
}
