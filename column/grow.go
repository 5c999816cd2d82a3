package column

import "trellis/api"

// grower: a column that samples are laid behind.
type grower struct {
	column
	left   []float32   // the caller's: those that no part has yet
	blocks []api.Block // of the parts that have a new one
}

// grow lays all samples behind the others; the new root's link.
func (g *grower) grow() (api.Link, api.Errno) {
	level := max(g.levels(), 1)
	top, e := g.filled(g.top, level)
	for e == api.OK && len(g.left) > 0 {
		// All that was there is one full part now.
		level++
		top, e = g.fill(part{level: level, entries: []entry{top}})
	}
	if e != api.OK {
		return api.Link{}, e
	}
	root := blockOf(rootTree(g.width, top))
	if _, e := g.store.Add(append(g.blocks, root)...); e != api.OK {
		return api.Link{}, e
	}
	return root.Link, api.OK
}

// filled tells the entry of a part of a level with samples behind its own, as many as there are and it takes; a full one's as it stands.
func (g *grower) filled(x entry, level int) (entry, api.Errno) {
	switch x.count {
	case sizeOf(g.width, level):
		return x, api.OK
	case 0:
		return g.fill(part{level: level})
	}
	p, e := g.read(x, level)
	if e != api.OK {
		return entry{}, e
	}
	return g.fill(p)
}

// fill lays samples behind those of a part, as many as there are and it takes; its new entry.
func (g *grower) fill(p part) (entry, api.Errno) {
	most := sizeOf(g.width, 1)
	if p.level == 1 {
		n := min(most-len(p.samples), len(g.left))
		p.samples = append(p.samples, g.left[:n]...)
		g.left = g.left[n:]
		return g.lay(p), api.OK
	}
	if last := len(p.entries) - 1; last >= 0 {
		x, e := g.filled(p.entries[last], p.level-1)
		if e != api.OK {
			return entry{}, e
		}
		p.entries[last] = x
	}
	for len(p.entries) < most && len(g.left) > 0 {
		x, e := g.filled(entry{}, p.level-1)
		if e != api.OK {
			return entry{}, e
		}
		p.entries = append(p.entries, x)
	}
	return g.lay(p), api.OK
}

// lay lays a part among the new blocks; its entry.
func (g *grower) lay(p part) entry {
	b := blockOf(p.tree())
	g.blocks = append(g.blocks, b)
	return entry{b.Link, p.tally()}
}
