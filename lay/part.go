package lay

import (
	"trellis/api"
	"trellis/head"
	"trellis/link"
)

// The first bytes of what RFC 8949 counts as MajorOther.
const (
	byteFalse = 0xf4
	byteTrue  = 0xf5
	byteNull  = 0xf6
	byteFloat = 0xfb
)

const (
	linkTag    = 42 // the tag whose item is a link
	floatBytes = 64 / 8
)

// part is what a kind lays by itself, ahead of its items.
type part interface {
	size() int
	lay(b []byte) []byte
}

// Each kind by what of a tree it lays.
type (
	null  struct{}
	truth bool
	whole struct {
		neg bool
		n   uint64
	}
	float   uint64
	text    string
	octets  []byte
	name    struct{ octets }
	list    []api.Value
	entries struct {
		keys  []string
		items []api.Value
	}
)

// partOf tells the part of a tree.
func partOf(v api.Value) part {
	switch v.Kind {
	case api.KindBool:
		return truth(v.Flag)
	case api.KindInt:
		return whole{v.Neg, v.N}
	case api.KindFloat:
		return float(v.Bits)
	case api.KindText:
		return text(v.Text)
	case api.KindBytes:
		return octets(v.Bytes)
	case api.KindLink:
		return nameOf(v.Link)
	case api.KindList:
		return list(v.Items)
	case api.KindMap:
		return entries{v.Keys, v.Items}
	}
	return null{}
}

// nameOf tells the part of a link that may be.
func nameOf(l api.Link) part {
	b, _ := link.Bytes(l)
	return name{append(octets{0}, b...)}
}

func (null) size() int           { return 1 }
func (null) lay(b []byte) []byte { return append(b, byteNull) }

func (truth) size() int { return 1 }
func (x truth) lay(b []byte) []byte {
	if x {
		return append(b, byteTrue)
	}
	return append(b, byteFalse)
}

func (x whole) size() int { return head.Size(x.n) }
func (x whole) lay(b []byte) []byte {
	if x.neg {
		return withHead(b, api.MajorNeg, x.n)
	}
	return withHead(b, api.MajorInt, x.n)
}

func (float) size() int { return 1 + floatBytes }
func (x float) lay(b []byte) []byte {
	b = append(b, byteFloat)
	for i := range floatBytes {
		b = append(b, byte(x>>(8*(floatBytes-1-i))))
	}
	return b
}

func (x text) size() int           { return sizeOf(len(x)) + len(x) }
func (x text) lay(b []byte) []byte { return append(withHead(b, api.MajorText, uint64(len(x))), x...) }

func (x octets) size() int { return sizeOf(len(x)) + len(x) }
func (x octets) lay(b []byte) []byte {
	return append(withHead(b, api.MajorBytes, uint64(len(x))), x...)
}

func (x name) size() int           { return sizeOf(linkTag) + x.octets.size() }
func (x name) lay(b []byte) []byte { return x.octets.lay(withHead(b, api.MajorTag, linkTag)) }

func (x list) size() int           { return sizeOf(len(x)) }
func (x list) lay(b []byte) []byte { return withHead(b, api.MajorList, uint64(len(x))) }

func (x entries) size() int           { return sizeOf(len(x.keys)) }
func (x entries) lay(b []byte) []byte { return withHead(b, api.MajorMap, uint64(len(x.keys))) }

// withHead tells bytes, behind them the shortest head of a major and an argument.
func withHead(b []byte, major int, n uint64) []byte { return append(b, head.Lay(major, n)...) }

// sizeOf tells how many bytes the head of so many things has.
func sizeOf(n int) int { return head.Size(uint64(n)) }
