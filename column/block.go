package column

import (
	"math"

	"trellis/api"
	"trellis/lay"
	"trellis/read"
	"trellis/store"
)

// rootWord is the text with which a root begins.
const rootWord = "column"

// isTree tells whether a link is a tree block's.
func isTree(l api.Link) bool {
	return l.Version == 1 && l.Codec == api.CodecTree && l.Hash == api.HashSha
}

// readTree tells the tree that a tree block is.
func readTree(s *store.Store, l api.Link) (api.Value, api.Errno) {
	b, e := s.Get(l)
	if e != api.OK {
		return api.Value{}, e
	}
	if !isTree(l) {
		return api.Value{}, api.ErrColumnNode
	}
	v, f := read.Decode(b, api.MaxDepth)
	if f.Code != api.OK {
		return api.Value{}, api.ErrColumnNode
	}
	return v, api.OK
}

// rootIn tells the width and the top's entry of a root, if it is a right one; the zero entry, if there are no samples.
func rootIn(v api.Value) (int, entry, bool) {
	if v.Kind != api.KindList || len(v.Items) != 4 || v.Items[0].Kind != api.KindText || v.Items[0].Text != rootWord {
		return 0, entry{}, false
	}
	width, ok := wholeIn(v.Items[1], api.MaxWidth)
	if !ok || width == 0 {
		return 0, entry{}, false
	}
	// No column has more levels than samples.
	levels, ok := wholeIn(v.Items[2], api.MaxSamples)
	if !ok {
		return 0, entry{}, false
	}
	if levels == 0 {
		return width, entry{}, v.Items[3].Kind == api.KindNull
	}
	top, ok := entryIn(v.Items[3])
	return width, top, ok && levels == levelsOf(width, top.count)
}

// entryIn tells an entry, if it is a right one, of however many samples.
func entryIn(v api.Value) (entry, bool) {
	if v.Kind != api.KindList || len(v.Items) != 5 || v.Items[0].Kind != api.KindLink {
		return entry{}, false
	}
	count, ok := wholeIn(v.Items[1], api.MaxSamples)
	if !ok || count == 0 || !isTree(v.Items[0].Link) {
		return entry{}, false
	}
	sum, least, greatest := v.Items[2], v.Items[3], v.Items[4]
	if !isBytes(sum, 8) || !isBytes(least, 4) || !isBytes(greatest, 4) {
		return entry{}, false
	}
	x := entry{v.Items[0].Link, tally{count, math.Float64frombits(bitsOf(sum.Bytes)), sampleOf(least.Bytes), sampleOf(greatest.Bytes)}}
	return x, x.mayBe()
}

// leafIn tells a leaf of so many samples, if it is a right one.
func leafIn(v api.Value, count int) (part, bool) {
	if !isBytes(v, 4*count) {
		return part{}, false
	}
	p := part{level: 1}
	for at := 0; at < len(v.Bytes); at += 4 {
		x := sampleOf(v.Bytes[at : at+4])
		if !finite(x) {
			return part{}, false
		}
		p.samples = append(p.samples, x)
	}
	return p, true
}

// nodeIn tells a node of a level with so many samples, if it is a right one.
func nodeIn(v api.Value, width, level, count int) (part, bool) {
	if v.Kind != api.KindList {
		return part{}, false
	}
	p := part{level: level}
	size := sizeOf(width, level-1)
	for _, item := range v.Items {
		x, ok := entryIn(item)
		// All parts but the last are full; behind the last none is left, and an entry has a sample at least.
		if !ok || x.count != min(size, count) {
			return part{}, false
		}
		p.entries = append(p.entries, x)
		count -= x.count
	}
	return p, count == 0
}

// wholeIn tells a whole number from 0 to the greatest one.
func wholeIn(v api.Value, greatest uint64) (int, bool) {
	if v.Kind != api.KindInt || v.Neg || v.N > greatest {
		return 0, false
	}
	return int(v.N), true
}

// isBytes tells whether a tree is a byte string of so many bytes.
func isBytes(v api.Value, n int) bool { return v.Kind == api.KindBytes && len(v.Bytes) == n }

// bitsOf tells the bits that bytes are, the highest first.
func bitsOf(b []byte) uint64 {
	var n uint64
	for _, x := range b {
		n = n<<8 | uint64(x)
	}
	return n
}

// sampleOf tells the float of four bytes.
func sampleOf(b []byte) float32 { return math.Float32frombits(uint32(bitsOf(b))) }

// laidBits lays the lowest bits behind other bytes, so many bytes of them, the highest first.
func laidBits(b []byte, bits uint64, n int) []byte {
	for i := n - 1; i >= 0; i-- {
		b = append(b, byte(bits>>(8*i)))
	}
	return b
}

// laidSample lays a sample behind other bytes.
func laidSample(b []byte, x float32) []byte { return laidBits(b, uint64(math.Float32bits(x)), 4) }

// rootTree tells the tree of a root; the top's entry is the zero one, if there are no samples.
func rootTree(width int, top entry) api.Value {
	last := api.Value{Kind: api.KindNull}
	if top.count > 0 {
		last = entryTree(top)
	}
	return list(api.Value{Kind: api.KindText, Text: rootWord}, whole(width), whole(levelsOf(width, top.count)), last)
}

// entryTree tells the tree of an entry.
func entryTree(x entry) api.Value {
	sum := laidBits(nil, math.Float64bits(x.sum), 8)
	return list(api.Value{Kind: api.KindLink, Link: x.link}, whole(x.count), octets(sum), octets(laidSample(nil, x.least)), octets(laidSample(nil, x.greatest)))
}

// tree tells the tree of a part.
func (p part) tree() api.Value {
	if p.level == 1 {
		var b []byte
		for _, x := range p.samples {
			b = laidSample(b, x)
		}
		return octets(b)
	}
	var items []api.Value
	for _, x := range p.entries {
		items = append(items, entryTree(x))
	}
	return list(items...)
}

func whole(n int) api.Value { return api.Value{Kind: api.KindInt, N: uint64(n)} }

func octets(b []byte) api.Value { return api.Value{Kind: api.KindBytes, Bytes: b} }

func list(items ...api.Value) api.Value { return api.Value{Kind: api.KindList, Items: items} }

// formOf tells the form of a tree. It is not asked for errors: what is laid is a tree, and not deep.
func formOf(v api.Value) []byte {
	b, _ := lay.Encode(v)
	return b
}

// blockOf tells a tree's block. Its link is told by a store of one block, so that nothing is added to the caller's ahead of the end.
func blockOf(v api.Value) api.Block {
	b := formOf(v)
	scratch, _ := store.New(1)
	l, _ := scratch.Put(api.CodecTree, b)
	return api.Block{Link: l, Bytes: b}
}
