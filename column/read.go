package column

import (
	"trellis/api"
	"trellis/store"
)

// column: what a root says, and where its parts stand.
type column struct {
	store *store.Store
	width int
	top   entry // the zero one, if there are no samples
}

// open reads a root.
func open(s *store.Store, root api.Link) (column, api.Errno) {
	v, e := readTree(s, root)
	if e != api.OK {
		return column{}, e
	}
	width, top, ok := rootIn(v)
	if !ok {
		return column{}, api.ErrColumnNode
	}
	return column{s, width, top}, api.OK
}

// levels tells how many levels there are.
func (c column) levels() int { return levelsOf(c.width, c.top.count) }

// has tells whether these places are a range of the column; an empty one is, too.
func (c column) has(w span) bool { return 0 <= w.from && w.from <= w.to && w.to <= c.top.count }

// read reads a part of a level.
func (c column) read(x entry, level int) (part, api.Errno) {
	v, e := readTree(c.store, x.link)
	if e != api.OK {
		return part{}, e
	}
	var p part
	var ok bool
	if level == 1 {
		p, ok = leafIn(v, x.count)
	} else {
		p, ok = nodeIn(v, c.width, level, x.count)
	}
	if !ok {
		return part{}, api.ErrColumnNode
	}
	return p, api.OK
}

// samples tells the samples of a range.
func (c column) samples(where span) ([]float32, api.Errno) {
	if where.isEmpty() {
		return nil, api.OK
	}
	return c.gather(nil, c.top, c.levels(), where)
}

// gather lays those samples of a part that stand in a span, in which there are some, behind others.
func (c column) gather(all []float32, x entry, level int, where span) ([]float32, api.Errno) {
	p, e := c.read(x, level)
	if e != api.OK {
		return nil, e
	}
	if level == 1 {
		return append(all, p.samples[where.from:where.to]...), api.OK
	}
	for _, y := range p.pieces(c.width, where) {
		if all, e = c.gather(all, y.entry, level-1, y.where); e != api.OK {
			return nil, e
		}
	}
	return all, api.OK
}

// tally tells the tally of a range.
func (c column) tally(where span) (tally, api.Errno) {
	if where.isEmpty() {
		return tally{}, api.OK
	}
	return c.tallyIn(c.top, c.levels(), where)
}

// tallyIn tells the tally of those samples of a part that stand in a span, in which there are some. What stands there whole is not read.
func (c column) tallyIn(x entry, level int, where span) (tally, api.Errno) {
	if where == (span{0, x.count}) {
		return x.tally, api.OK
	}
	p, e := c.read(x, level)
	if e != api.OK {
		return tally{}, e
	}
	if level == 1 {
		return joined(ofSamples(p.samples[where.from:where.to])...), api.OK
	}
	var l []tally
	for _, y := range p.pieces(c.width, where) {
		t, e := c.tallyIn(y.entry, level-1, y.where)
		if e != api.OK {
			return tally{}, e
		}
		l = append(l, t)
	}
	return joined(l...), api.OK
}

// check reads all parts, and holds each against its entry.
func (c column) check() api.Errno {
	if c.top.count == 0 {
		return api.OK
	}
	return c.checkPart(c.top, c.levels())
}

func (c column) checkPart(x entry, level int) api.Errno {
	p, e := c.read(x, level)
	if e != api.OK {
		return e
	}
	if !p.tally().same(x.tally) {
		return api.ErrColumnForm
	}
	for _, y := range p.entries {
		if e := c.checkPart(y, level-1); e != api.OK {
			return e
		}
	}
	return api.OK
}
