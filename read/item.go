package read

import (
	"bytes"
	"unicode/utf8"

	"trellis/api"
	"trellis/head"
	"trellis/link"
)

// The infos of MajorOther that trees have.
const (
	infoFalse = iota + 20
	infoTrue
	infoNull
	infoFloat = 27
)

const (
	infoEndless = 31
	linkTag     = 42 // the argument of a link's tag
	infoBits    = 5  // bits of a first byte that are not its major

	exponent = 0x7ff << 52 // the bits of a float's exponent, which are all set where it is not finite
)

// item is what has been read of an item: its head, of bytes and texts the bytes behind it where they stand, of a text that text, of a name its link.
type item struct {
	head head.Head
	body []byte
	text string
	link api.Link
}

// nests tells whether an item that begins with a byte is a list or a map.
func nests(first byte) bool {
	major := int(first >> infoBits)
	return major == api.MajorList || major == api.MajorMap
}

// look tells the item at the front of bytes, as it is wanted, or that it is not whole, or that it is forbidden.
func look(rest []byte, want int) (item, api.Errno) {
	h, e := head.Read(rest)
	if e == api.ErrHeadShort {
		return item{}, api.ErrReadShort
	}
	if e != api.OK || h.Info == infoEndless {
		return item{}, api.ErrReadForbidden
	}
	it := item{head: h}
	if h.Major == api.MajorBytes || h.Major == api.MajorText {
		behind := rest[h.Used:]
		if uint64(len(behind)) < h.N {
			return item{}, api.ErrReadShort
		}
		it.body = behind[:h.N]
	}
	if !it.mayBe() || !it.fits(want) {
		return item{}, api.ErrReadForbidden
	}
	return it, api.OK
}

// mayBe tells whether an item may stand in a tree's form, whatever it is wanted as, and keeps a text.
func (it *item) mayBe() bool {
	switch it.head.Major {
	case api.MajorText:
		it.text = string(it.body)
		return utf8.ValidString(it.text)
	case api.MajorTag:
		return it.head.N == linkTag
	case api.MajorOther:
		return it.known()
	}
	return true
}

// known tells whether an item of MajorOther is one that trees have.
func (it *item) known() bool {
	switch it.head.Info {
	case infoFalse, infoTrue, infoNull:
		return true
	case infoFloat:
		return it.head.N&exponent != exponent
	}
	return false
}

// fits tells whether an item may be what it is wanted as, and keeps a name's link.
func (it *item) fits(want int) bool {
	switch want {
	case key:
		return it.head.Major == api.MajorText
	case name:
		if it.head.Major != api.MajorBytes || len(it.body) == 0 || it.body[0] != 0 {
			return false
		}
		l, e := link.Parse(it.body[1:])
		it.link = l
		return e == api.OK
	}
	return true
}

// leaf tells the tree that an item is which has no items and no name.
func (it *item) leaf() api.Value {
	switch it.head.Major {
	case api.MajorInt, api.MajorNeg:
		return api.Value{Kind: api.KindInt, Neg: it.head.Major == api.MajorNeg, N: it.head.N}
	case api.MajorBytes:
		return api.Value{Kind: api.KindBytes, Bytes: bytes.Clone(it.body)}
	case api.MajorText:
		return api.Value{Kind: api.KindText, Text: it.text}
	}
	switch it.head.Info {
	case infoFloat:
		return api.Value{Kind: api.KindFloat, Bits: it.head.N}
	case infoNull:
		return api.Value{Kind: api.KindNull}
	}
	return api.Value{Kind: api.KindBool, Flag: it.head.Info == infoTrue}
}
