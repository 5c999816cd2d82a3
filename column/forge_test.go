package column

// Forged columns: in one or some of their blocks something is bent.

import (
	"encoding/binary"
	"math"
	"slices"
	"strings"

	"trellis/api"
	"trellis/sample"
)

// bend makes of a tree another one: of an entry, of a part, of a root.
type bend func(v *api.Value)

// put tells a bend that puts another tree in the place of an item.
func put(at int, other api.Value) bend {
	return func(v *api.Value) { v.Items[at] = other }
}

// sumBytes, sampleBytes: the byte strings of a sum and of a sample.
func sumBytes(x float64) api.Value {
	return octets(binary.BigEndian.AppendUint64(nil, math.Float64bits(x)))
}

func sampleBytes(x float32) api.Value {
	return octets(binary.BigEndian.AppendUint32(nil, math.Float32bits(x)))
}

// others tells trees that are neither a whole number above 0, nor the bytes or the list that is wanted.
func others() []api.Value {
	return []api.Value{sample.Null(), sample.Text("column"), sample.Text("\x00\x00\x00\x00"), sample.Text("12345678"), sample.Float(0x3ff0000000000000), {Kind: api.KindInt, Neg: true}, {Kind: api.KindInt, Neg: true, N: 2}, sample.List(), sample.Map("a", sample.Null()), octets(nil), {Kind: api.KindBool, Flag: true}, sample.Link("")}
}

// listBends: what may be bent in any list.
func listBends() []bend {
	return []bend{
		func(v *api.Value) { v.Items = append(v.Items, sample.Null()) },
		func(v *api.Value) { v.Items = v.Items[:len(v.Items)-1] },
		func(v *api.Value) { v.Items = v.Items[1:] },
		func(v *api.Value) { v.Items = nil },
		func(v *api.Value) { v.Items[0], v.Items[len(v.Items)-1] = v.Items[len(v.Items)-1], v.Items[0] },
		func(v *api.Value) { v.Items = append(v.Items, v.Items[len(v.Items)-1]) },
		func(v *api.Value) { *v = sample.List(*v) },
		func(v *api.Value) { *v = sample.Map("a", *v) },
		func(v *api.Value) { *v = sample.Null() },
		func(v *api.Value) { *v = octets(nil) },
		func(v *api.Value) { *v = sample.Text("column") },
	}
}

// linkBends: other links in the place of an entry's.
func linkBends() []bend {
	change := func(to func(l *api.Link)) bend {
		return func(v *api.Value) {
			l := v.Items[0].Link
			to(&l)
			v.Items[0] = api.Value{Kind: api.KindLink, Link: l}
		}
	}
	return []bend{
		change(func(l *api.Link) { l.Codec = api.CodecRaw }),
		change(func(l *api.Link) { l.Codec++ }),
		change(func(l *api.Link) { l.Version, l.Codec = 0, api.CodecOld }),
		change(func(l *api.Link) { l.Hash = api.HashNone }),
		change(func(l *api.Link) { l.Hash, l.Digest = api.HashNone, "\x44\x00\x00\x00\x00" }),
		change(func(l *api.Link) { l.Digest = strings.Repeat("x", 32) }),
	}
}

// sumBends: other sums, just within what may be, and just not.
func sumBends() []bend {
	around := func(sign float64, next float64) bend {
		return func(v *api.Value) {
			most := float64(v.Items[1].N) * math.Pow(2, 128)
			v.Items[2] = sumBytes(sign * math.Nextafter(most, most*next))
		}
	}
	l := []bend{around(1, 0), around(1, 1), around(1, 2), around(-1, 0), around(-1, 1), around(-1, 2)}
	for _, x := range []float64{0, math.Copysign(0, -1), 1, -1, 0.1, math.SmallestNonzeroFloat64, math.MaxFloat64, -math.MaxFloat64, math.Inf(1), math.Inf(-1), math.NaN()} {
		l = append(l, put(2, sumBytes(x)))
	}
	l = append(l, func(v *api.Value) {
		v.Items[2] = sumBytes(math.Nextafter(math.Float64frombits(binary.BigEndian.Uint64(v.Items[2].Bytes)), 7))
	})
	return l
}

// endBends: other ends.
func endBends() []bend {
	l := []bend{
		func(v *api.Value) { v.Items[3], v.Items[4] = v.Items[4], v.Items[3] },
		func(v *api.Value) { v.Items[3] = v.Items[4] },
		func(v *api.Value) { v.Items[3], v.Items[4] = sampleBytes(0), sampleBytes(minus) },
		func(v *api.Value) { v.Items[3], v.Items[4] = sampleBytes(minus), sampleBytes(0) },
		func(v *api.Value) { v.Items[3], v.Items[4] = sampleBytes(0), sampleBytes(0) },
		func(v *api.Value) { v.Items[3], v.Items[4] = sampleBytes(minus), sampleBytes(minus) },
		func(v *api.Value) { v.Items[3], v.Items[4] = sampleBytes(inf), sampleBytes(inf) },
		func(v *api.Value) { v.Items[3], v.Items[4] = sampleBytes(none), sampleBytes(none) },
	}
	for _, x := range []float32{inf, -inf, none, -none, math.Float32frombits(0x7f800001), math.MaxFloat32, -math.MaxFloat32, math.SmallestNonzeroFloat32, 0, minus} {
		l = append(l, put(3, sampleBytes(x)), put(4, sampleBytes(x)))
	}
	return l
}

// entryBends: what may be bent in an entry; some of it is right still.
func entryBends() []bend {
	l := slices.Concat(listBends(), linkBends(), sumBends(), endBends())
	for at := range 5 {
		for _, other := range others() {
			l = append(l, put(at, other))
		}
	}
	for _, n := range []uint64{0, 1, 2, 3, 4, 5, 1 << 20, 1<<20 + 1, 1 << 32, 1<<63 + 2, 1<<64 - 1} {
		l = append(l, put(1, sample.Whole(n)))
	}
	for at := 2; at < 5; at++ {
		l = append(l,
			func(v *api.Value) { v.Items[at] = octets(v.Items[at].Bytes[1:]) },
			func(v *api.Value) { v.Items[at] = octets(append(v.Items[at].Bytes, 0)) },
			func(v *api.Value) { v.Items[at] = octets(append(v.Items[at].Bytes, v.Items[at].Bytes...)) },
			func(v *api.Value) { v.Items[at].Kind, v.Items[at].N, v.Items[at].Bytes = api.KindInt, 0x40000000, nil },
		)
	}
	return l
}

// leafBends: what may be bent in a leaf.
func leafBends() []bend {
	l := []bend{
		func(v *api.Value) { v.Bytes = v.Bytes[1:] },
		func(v *api.Value) { v.Bytes = v.Bytes[4:] },
		func(v *api.Value) { v.Bytes = append(v.Bytes, 0) },
		func(v *api.Value) { v.Bytes = append(v.Bytes, 0, 0, 0, 0) },
		func(v *api.Value) { v.Bytes = append(v.Bytes, v.Bytes...) },
		func(v *api.Value) { *v = sample.List(*v) },
		func(v *api.Value) { *v = sample.Text(strings.Repeat("a", len(v.Bytes))) },
	}
	for _, other := range others() {
		l = append(l, func(v *api.Value) { *v = other })
	}
	for _, x := range []float32{inf, -inf, none, math.Float32frombits(0xff800001), 0, minus, 7, math.MaxFloat32} {
		l = append(l,
			func(v *api.Value) { copy(v.Bytes, sampleBytes(x).Bytes) },
			func(v *api.Value) { copy(v.Bytes[len(v.Bytes)-4:], sampleBytes(x).Bytes) },
		)
	}
	return l
}

// nodeBends: what may be bent in a node beside its entries.
func nodeBends() []bend {
	empty := sample.List(api.Value{Kind: api.KindLink, Link: treeLink([]byte{0x40})}, sample.Whole(0), sumBytes(0), sampleBytes(0), sampleBytes(0))
	return append(listBends(),
		func(v *api.Value) { *v = v.Items[0] },
		func(v *api.Value) { v.Items = append(v.Items, empty) },
		func(v *api.Value) { v.Items = append([]api.Value{empty}, v.Items...) },
		put(0, sample.Null()), put(0, sample.List()),
	)
}

// rootBends: what may be bent in a root beside its entry.
func rootBends() []bend {
	l := listBends()
	for at := range 4 {
		for _, other := range others() {
			l = append(l, put(at, other))
		}
	}
	for n := range 12 {
		l = append(l, put(1, sample.Whole(uint64(n))), put(2, sample.Whole(uint64(n))))
	}
	for _, n := range []uint64{1 << 20, 1 << 32, 1 << 63, 1<<64 - 1} {
		l = append(l, put(1, sample.Whole(n)), put(2, sample.Whole(n)))
	}
	for _, word := range []string{"", "colum", "columns", "Column", "trie"} {
		l = append(l, put(0, sample.Text(word)))
	}
	return append(l,
		put(0, octets([]byte("column"))),
		func(v *api.Value) { v.Items[2], v.Items[3] = sample.Whole(0), sample.Null() },
		func(v *api.Value) { v.Items[2], v.Items[3] = sample.Whole(1), sample.Null() },
	)
}

// forger makes blocks of a column, level by level, in which something is bent.
type forger struct {
	blocks map[api.Link]string
	width  int
	part   func(p spot, v *api.Value) // bends a part, or not
	entry  func(p spot, v *api.Value) // bends a part's entry, or not
	root   func(v *api.Value)         // bends the root, or not
}

// forge lays a column; its root's link.
func (f *forger) forge(samples []float32) api.Link {
	var row []api.Value
	for l := range slices.Chunk(samples, power(f.width, 1)) {
		leaf := octets(nil)
		for _, x := range l {
			leaf.Bytes = append(leaf.Bytes, sampleBytes(x).Bytes...)
		}
		row = append(row, f.laid(spot{1, len(row)}, leaf, total(singles(l))))
	}
	levels := height(f.width, len(samples))
	for level := 2; level <= levels; level++ {
		var above []api.Value
		for l := range slices.Chunk(row, power(f.width, 1)) {
			above = append(above, f.laid(spot{level, len(above)}, sample.List(l...), f.total(l)))
		}
		row = above
	}
	v := sample.List(sample.Text("column"), sample.Whole(uint64(f.width)), sample.Whole(uint64(levels)), sample.Null())
	if len(row) > 0 {
		v.Items[3] = row[0]
	}
	v = sample.Again(v)
	f.root(&v)
	return laidTree(f.blocks, v)
}

// total: what a node's entry tells, as far as the entries in it are right.
func (f *forger) total(l []api.Value) tale {
	var all []tale
	for _, v := range l {
		x := tale{n: 1}
		if y := plainEntry(v); y != nil {
			x = *y
		}
		all = append(all, x)
	}
	return total(all)
}

// laid lays a part; its entry.
func (f *forger) laid(p spot, v api.Value, x tale) api.Value {
	v = sample.Again(v)
	f.part(p, &v)
	l := laidTree(f.blocks, v)
	entry := sample.List(api.Value{Kind: api.KindLink, Link: l}, sample.Whole(uint64(x.n)), sumBytes(x.sum), sampleBytes(x.low), sampleBytes(x.top))
	f.entry(p, &entry)
	return entry
}

// straight tells a forger that bends nothing.
func straight(width int) *forger {
	nothing := func(spot, *api.Value) {}
	return &forger{map[api.Link]string{}, width, nothing, nothing, func(*api.Value) {}}
}

// anyForger tells one that bends one of so many things.
func anyForger(d *sample.Dice, width, chance int) *forger {
	f := straight(width)
	some := func(v *api.Value, l []bend) {
		if d.Below(chance) == 0 {
			l[d.Below(len(l))](v)
		}
	}
	f.part = func(p spot, v *api.Value) {
		if p.level == 1 {
			some(v, leafBends())
		} else {
			some(v, nodeBends())
		}
	}
	f.entry = func(p spot, v *api.Value) { some(v, entryBends()) }
	f.root = func(v *api.Value) { some(v, rootBends()) }
	return f
}
