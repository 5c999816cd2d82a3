package column

// The chapter read a second time, plainly: a part is told by its level and its number from the left, and has places of the whole column; forms are laid byte by byte; digests are the library's, and each step of a sum is rounded by big.Float.

import (
	"bytes"
	"crypto/sha256"
	"encoding/binary"
	"fmt"
	"maps"
	"math"
	"math/big"

	"trellis/api"
	"trellis/read"
	"trellis/store"
)

// spot: a part: its level, and how many of that level stand to the left of it.
type spot struct{ level, at int }

// tale: what stands of a part above it.
type tale struct {
	link     api.Link
	n        int
	sum      float64
	low, top float32
}

// power: F^k.
func power(width, k int) int {
	n := 1
	for range k * width {
		n *= 2
	}
	return n
}

// height: how many levels n samples have: so often they are put together, F at a time, till one part is left.
func height(width, n int) int {
	levels := 0
	for n > 1 || levels == 0 && n > 0 {
		n = (n + power(width, 1) - 1) / power(width, 1)
		levels++
	}
	return levels
}

// places: from which place up to which one a part's samples stand, where there are n in all.
func (p spot) places(width, n int) (int, int) {
	full := power(width, p.level)
	return p.at * full, min(n, (p.at+1)*full)
}

// isFull: whether a part has all the samples that it can have.
func (p spot) isFull(width, n int) bool {
	from, to := p.places(width, n)
	return to-from == power(width, p.level)
}

// plus: x + y, rounded once.
func plus(x, y float64) float64 {
	z, _ := new(big.Float).SetPrec(53).Add(big.NewFloat(x), big.NewFloat(y)).Float64()
	return z
}

// below: whether x stands ahead of y.
func below(x, y float32) bool {
	return x < y || x == y && math.Signbit(float64(x)) && !math.Signbit(float64(y))
}

// total: what is told of parts, or samples, one behind the other.
func total(l []tale) tale {
	all := tale{low: l[0].low, top: l[0].top}
	for _, x := range l {
		all.n += x.n
		all.sum = plus(all.sum, x.sum)
		if below(x.low, all.low) {
			all.low = x.low
		}
		if below(all.top, x.top) {
			all.top = x.top
		}
	}
	return all
}

// singles: samples as if each were a part.
func singles(samples []float32) []tale {
	var l []tale
	for _, x := range samples {
		l = append(l, tale{n: 1, sum: float64(x), low: x, top: x})
	}
	return l
}

// intro: the bytes of a head.
func intro(major byte, n int) []byte {
	switch {
	case n < 24:
		return []byte{major<<5 | byte(n)}
	case n < 1<<8:
		return []byte{major<<5 | 24, byte(n)}
	case n < 1<<16:
		return binary.BigEndian.AppendUint16([]byte{major<<5 | 25}, uint16(n))
	}
	return binary.BigEndian.AppendUint32([]byte{major<<5 | 26}, uint32(n))
}

// entryForm: the bytes of an entry.
func entryForm(x tale) []byte {
	b := []byte{0x85, 0xd8, 0x2a, 0x58, 37, 0, 1, 0x71, 0x12, 32}
	b = append(b, x.link.Digest...)
	b = append(b, intro(0, x.n)...)
	b = binary.BigEndian.AppendUint64(append(b, 0x48), math.Float64bits(x.sum))
	b = binary.BigEndian.AppendUint32(append(b, 0x44), math.Float32bits(x.low))
	return binary.BigEndian.AppendUint32(append(b, 0x44), math.Float32bits(x.top))
}

// leafForm: the bytes of a leaf.
func leafForm(samples []float32) []byte {
	b := intro(2, 4*len(samples))
	for _, x := range samples {
		b = binary.BigEndian.AppendUint32(b, math.Float32bits(x))
	}
	return b
}

// nodeForm: the bytes of a node.
func nodeForm(l []tale) []byte {
	b := intro(4, len(l))
	for _, x := range l {
		b = append(b, entryForm(x)...)
	}
	return b
}

// rootForm: the bytes of a root; without a top of one without samples.
func rootForm(width int, top *tale) []byte {
	b := append([]byte("\x84\x66column"), byte(width))
	if top == nil {
		return append(b, 0, 0xf6)
	}
	return append(append(b, byte(height(width, top.n))), entryForm(*top)...)
}

// treeLink: the link of a tree block.
func treeLink(b []byte) api.Link {
	sum := sha256.Sum256(b)
	return api.Link{Version: 1, Codec: 0x71, Hash: 0x12, Digest: string(sum[:])}
}

// laid lays a tree block among others; its link.
func laid(blocks map[api.Link]string, b []byte) api.Link {
	l := treeLink(b)
	blocks[l] = string(b)
	return l
}

// columnOf lays all blocks of a column, level by level, from the leaves on; the root's link.
func columnOf(blocks map[api.Link]string, width int, samples []float32) api.Link {
	if len(samples) == 0 {
		return laid(blocks, rootForm(width, nil))
	}
	var row []tale
	for at := 0; at < len(samples); at += power(width, 1) {
		leaf := samples[at:min(len(samples), at+power(width, 1))]
		x := total(singles(leaf))
		x.link = laid(blocks, leafForm(leaf))
		row = append(row, x)
	}
	for len(row) > 1 {
		var above []tale
		for at := 0; at < len(row); at += power(width, 1) {
			node := row[at:min(len(row), at+power(width, 1))]
			x := total(node)
			x.link = laid(blocks, nodeForm(node))
			above = append(above, x)
		}
		row = above
	}
	return laid(blocks, rootForm(width, &row[0]))
}

// plainTree: the tree that a tree block is.
func plainTree(s *store.Store, l api.Link) (api.Value, api.Errno) {
	b, e := s.Get(l)
	if e != api.OK {
		return api.Value{}, e
	}
	v, f := read.Decode(b, api.MaxDepth)
	if l.Version != 1 || l.Codec != 0x71 || l.Hash != 0x12 || f.Code != api.OK {
		return api.Value{}, api.ErrColumnNode
	}
	return v, api.OK
}

// isFinite: of a float's bits, with so many of the exponent ahead of so many of the fraction: whether the exponent's are not all set.
func isFinite(bits uint64, exponent, fraction int) bool {
	all := uint64(1)<<exponent - 1
	return bits>>fraction&all != all
}

// plainEntry: a right entry; nil of any other tree.
func plainEntry(v api.Value) *tale {
	if v.Kind != api.KindList || len(v.Items) != 5 {
		return nil
	}
	l, n := v.Items[0], v.Items[1]
	if l.Kind != api.KindLink || l.Link.Version != 1 || l.Link.Codec != 0x71 || l.Link.Hash != 0x12 {
		return nil
	}
	if n.Kind != api.KindInt || n.Neg || n.N < 1 || n.N > 1<<20 {
		return nil
	}
	for i, size := range []int{8, 4, 4} {
		if w := v.Items[2+i]; w.Kind != api.KindBytes || len(w.Bytes) != size {
			return nil
		}
	}
	sum, low, top := binary.BigEndian.Uint64(v.Items[2].Bytes), binary.BigEndian.Uint32(v.Items[3].Bytes), binary.BigEndian.Uint32(v.Items[4].Bytes)
	if !isFinite(sum, 11, 52) || !isFinite(uint64(low), 8, 23) || !isFinite(uint64(top), 8, 23) {
		return nil
	}
	x := tale{l.Link, int(n.N), math.Float64frombits(sum), math.Float32frombits(low), math.Float32frombits(top)}
	most := new(big.Int).Lsh(big.NewInt(int64(x.n)), 128)
	if new(big.Float).Abs(big.NewFloat(x.sum)).Cmp(new(big.Float).SetInt(most)) > 0 || below(x.top, x.low) {
		return nil
	}
	return &x
}

// plainRoot: a root's width, and its top, of whose n samples 0 is told as no top.
func plainRoot(s *store.Store, root api.Link) (int, tale, api.Errno) {
	v, e := plainTree(s, root)
	if e != api.OK {
		return 0, tale{}, e
	}
	bad := func() (int, tale, api.Errno) { return 0, tale{}, api.ErrColumnNode }
	if v.Kind != api.KindList || len(v.Items) != 4 || v.Items[0].Kind != api.KindText || v.Items[0].Text != "column" {
		return bad()
	}
	for _, w := range v.Items[1:3] {
		if w.Kind != api.KindInt || w.Neg || w.N > 64 {
			return bad()
		}
	}
	width, levels := int(v.Items[1].N), int(v.Items[2].N)
	if width < 1 || width > 8 {
		return bad()
	}
	if levels == 0 {
		if v.Items[3].Kind != api.KindNull {
			return bad()
		}
		return width, tale{}, api.OK
	}
	x := plainEntry(v.Items[3])
	if x == nil || height(width, x.n) != levels {
		return bad()
	}
	return width, *x, api.OK
}

// row: a column that is read plainly.
type row struct {
	s        *store.Store
	width, n int
}

// leaf: the samples of a leaf.
func (r row) leaf(p spot, x tale) ([]float32, api.Errno) {
	v, e := plainTree(r.s, x.link)
	if e != api.OK {
		return nil, e
	}
	from, to := p.places(r.width, r.n)
	if v.Kind != api.KindBytes || len(v.Bytes) != 4*(to-from) {
		return nil, api.ErrColumnNode
	}
	var samples []float32
	for at := 0; at < len(v.Bytes); at += 4 {
		bits := binary.BigEndian.Uint32(v.Bytes[at:])
		if !isFinite(uint64(bits), 8, 23) {
			return nil, api.ErrColumnNode
		}
		samples = append(samples, math.Float32frombits(bits))
	}
	return samples, api.OK
}

// below: of a node the parts that must stand in it.
func (r row) below(p spot) []spot {
	var l []spot
	for i := range power(r.width, 1) {
		q := spot{p.level - 1, p.at*power(r.width, 1) + i}
		if from, _ := q.places(r.width, r.n); from < r.n {
			l = append(l, q)
		}
	}
	return l
}

// node: what stands in a node of the parts below.
func (r row) node(p spot, x tale) (map[spot]tale, api.Errno) {
	v, e := plainTree(r.s, x.link)
	if e != api.OK {
		return nil, e
	}
	parts := r.below(p)
	if v.Kind != api.KindList || len(v.Items) != len(parts) {
		return nil, api.ErrColumnNode
	}
	told := map[spot]tale{}
	for i, q := range parts {
		y := plainEntry(v.Items[i])
		if from, to := q.places(r.width, r.n); y == nil || y.n != to-from {
			return nil, api.ErrColumnNode
		}
		told[q] = *y
	}
	return told, api.OK
}

// asked: whether a part has some of the places, and whether it has no others.
func (r row) asked(p spot, from, to int) (some, whole bool) {
	a, b := p.places(r.width, r.n)
	return max(a, from) < min(b, to), from <= a && b <= to
}

// slice: those samples of a part that stand at the places.
func (r row) slice(p spot, x tale, from, to int) ([]float32, api.Errno) {
	if p.level == 1 {
		all, e := r.leaf(p, x)
		if e != api.OK {
			return nil, e
		}
		var some []float32
		begin, _ := p.places(r.width, r.n)
		for i, y := range all {
			if from <= begin+i && begin+i < to {
				some = append(some, y)
			}
		}
		return some, api.OK
	}
	told, e := r.node(p, x)
	if e != api.OK {
		return nil, e
	}
	var all []float32
	for _, q := range r.below(p) {
		if some, _ := r.asked(q, from, to); some {
			l, e := r.slice(q, told[q], from, to)
			if e != api.OK {
				return nil, e
			}
			all = append(all, l...)
		}
	}
	return all, api.OK
}

// fold: the sum and the ends in a part of the places.
func (r row) fold(p spot, x tale, from, to int) (tale, api.Errno) {
	if _, whole := r.asked(p, from, to); whole {
		return x, api.OK
	}
	if p.level == 1 {
		l, e := r.slice(p, x, from, to)
		if e != api.OK {
			return tale{}, e
		}
		return total(singles(l)), api.OK
	}
	told, e := r.node(p, x)
	if e != api.OK {
		return tale{}, e
	}
	var l []tale
	for _, q := range r.below(p) {
		if some, _ := r.asked(q, from, to); some {
			y, e := r.fold(q, told[q], from, to)
			if e != api.OK {
				return tale{}, e
			}
			l = append(l, y)
		}
	}
	return total(l), api.OK
}

// check: whether a part, and all below it, is what is told of it.
func (r row) check(p spot, x tale) api.Errno {
	var l []tale
	var told map[spot]tale
	if p.level == 1 {
		samples, e := r.leaf(p, x)
		if e != api.OK {
			return e
		}
		l = singles(samples)
	} else {
		var e api.Errno
		if told, e = r.node(p, x); e != api.OK {
			return e
		}
		for _, q := range r.below(p) {
			l = append(l, told[q])
		}
	}
	y := total(l)
	y.link = x.link
	if !bytes.Equal(entryForm(x), entryForm(y)) {
		return api.ErrColumnForm
	}
	if p.level > 1 {
		for _, q := range r.below(p) {
			if e := r.check(q, told[q]); e != api.OK {
				return e
			}
		}
	}
	return api.OK
}

// plainRow: a column by its root.
func plainRow(s *store.Store, root api.Link) (row, spot, tale, api.Errno) {
	width, top, e := plainRoot(s, root)
	return row{s, width, top.n}, spot{height(max(width, 1), top.n), 0}, top, e
}

func plainSlice(s *store.Store, root api.Link, from, to int) ([]float32, api.Errno) {
	r, p, x, e := plainRow(s, root)
	if e != api.OK {
		return nil, e
	}
	if from < 0 || from > to || to > r.n {
		return nil, api.ErrColumnRange
	}
	if from == to {
		return nil, api.OK
	}
	return r.slice(p, x, from, to)
}

// plainFold: what Sum tells, and Ends, each with its error.
func plainFold(s *store.Store, root api.Link, from, to int) (x tale, sum, ends api.Errno) {
	r, p, top, e := plainRow(s, root)
	if e != api.OK {
		return tale{}, e, e
	}
	if from < 0 || from > to || to > r.n {
		return tale{}, api.ErrColumnRange, api.ErrColumnRange
	}
	if from == to {
		return tale{}, api.OK, api.ErrColumnRange
	}
	x, e = r.fold(p, top, from, to)
	return x, e, e
}

func plainCheck(s *store.Store, root api.Link) (int, api.Errno) {
	r, p, x, e := plainRow(s, root)
	if e != api.OK || r.n == 0 {
		return 0, e
	}
	if e := r.check(p, x); e != api.OK {
		return 0, e
	}
	return r.n, api.OK
}

// opened reads the parts that are not full: what is told of all parts that stand in them, and the samples of the last leaf, if that is one.
func (r row) opened(p spot, x tale) (map[spot]tale, []float32, api.Errno) {
	known := map[spot]tale{p: x}
	for !p.isFull(r.width, r.n) {
		if p.level == 1 {
			l, e := r.leaf(p, known[p])
			return known, l, e
		}
		told, e := r.node(p, known[p])
		if e != api.OK {
			return nil, nil, e
		}
		maps.Copy(known, told)
		l := r.below(p)
		p = l[len(l)-1]
	}
	return known, nil, api.OK
}

// plainAppend: the new root, and the blocks that are added.
func plainAppend(s *store.Store, root api.Link, samples []float32) (api.Link, map[api.Link]string, api.Errno) {
	for _, x := range samples {
		if !isFinite(uint64(math.Float32bits(x)), 8, 23) {
			return api.Link{}, nil, api.ErrColumnSample
		}
	}
	r, p, x, e := plainRow(s, root)
	if e != api.OK {
		return api.Link{}, nil, e
	}
	if r.n+len(samples) > 1<<20 {
		return api.Link{}, nil, api.ErrColumnFull
	}
	if len(samples) == 0 {
		return root, nil, api.OK
	}
	known, last := map[spot]tale{}, []float32(nil)
	if r.n > 0 {
		if known, last, e = r.opened(p, x); e != api.OK {
			return api.Link{}, nil, e
		}
	}
	blocks := map[api.Link]string{}
	whole := row{s, r.width, r.n + len(samples)}
	// The samples of the places from begin on are those that have been read and the new ones.
	begin := r.n - len(last)
	behind := append(append([]float32{}, last...), samples...)
	levels := height(r.width, whole.n)
	for level := 1; level <= levels; level++ {
		for q := (spot{level, r.n / power(r.width, level)}); ; q.at++ {
			from, to := q.places(r.width, whole.n)
			if from >= whole.n {
				break
			}
			known[q] = whole.made(blocks, q, known, behind[max(0, from-begin):min(len(behind), max(0, to-begin))])
		}
	}
	top := known[spot{levels, 0}]
	return laid(blocks, rootForm(r.width, &top)), blocks, api.OK
}

// made lays a part that has a new sample; what is told of it. The samples are a leaf's.
func (r row) made(blocks map[api.Link]string, p spot, known map[spot]tale, samples []float32) tale {
	if p.level == 1 {
		x := total(singles(samples))
		x.link = laid(blocks, leafForm(samples))
		return x
	}
	var l []tale
	for _, q := range r.below(p) {
		y, is := known[q]
		if !is {
			panic(fmt.Sprint("nothing is known of ", q))
		}
		l = append(l, y)
	}
	x := total(l)
	x.link = laid(blocks, nodeForm(l))
	return x
}
