package loose

import (
	"trellis/api"
	"trellis/head"
)

const (
	infoBits    = 5  // bits of a first byte that are not its major
	infoEndless = 31 // the info of an endless item and of a break
	byteBreak   = 0xff
)

// reader is where a reading stands: the first place behind what has been read, and how many lists and maps are open there.
type reader struct {
	bytes []byte
	at    int
	depth int
	open  int
}

// checkWhole gives up, if bytes are not one well-formed item, within a depth.
func checkWhole(b []byte, depth int) {
	if depth < 0 || depth > api.MaxDepth {
		giveUp(api.ErrLooseDepth, 0)
	}
	r := reader{bytes: b, depth: depth}
	r.skip()
	if r.at < len(b) {
		giveUp(api.ErrLooseLeft, r.at)
	}
}

// skip goes behind the item that is wanted here.
func (r *reader) skip() {
	h := r.item()
	// Tags in one another are no recursion, as depth does not count them.
	for h.Major == api.MajorTag {
		h = r.item()
	}
	turn := 0
	switch h.Major {
	case api.MajorBytes, api.MajorText:
		r.skipString(h)
	case api.MajorMap:
		turn++
		fallthrough
	case api.MajorList:
		turn++
		r.skipInside(h, turn)
	}
}

// skipString goes behind a string whose head has been read.
func (r *reader) skipString(h head.Head) {
	if h.Info != infoEndless {
		r.take(h.N)
		return
	}
	for !r.ended() {
		r.take(r.piece(h.Major).N)
	}
}

// skipInside goes behind a list or a map whose head has been read, and whose items come so many at a turn. The turns are counted and not the items, as twice the argument may be more than 64 bits hold.
func (r *reader) skipInside(h head.Head, turn int) {
	r.open++
	for n := uint64(0); r.more(h, n); n++ {
		for range turn {
			r.skip()
		}
	}
	r.open--
}

// item tells the head of the item that is wanted here, and goes behind it. A break is none: where one may stand, it is asked for ahead.
func (r *reader) item() head.Head {
	h := r.look()
	if h.Major == api.MajorOther && h.Info == infoEndless {
		giveUp(api.ErrLooseForm, r.at)
	}
	r.at += h.Used
	return h
}

// piece tells the head of the piece that is wanted here of an endless string, and goes behind it.
func (r *reader) piece(major int) head.Head {
	h := r.look()
	if h.Major != major || h.Info == infoEndless {
		giveUp(api.ErrLooseForm, r.at)
	}
	r.at += h.Used
	return h
}

// look tells the head that stands here. It gives up for what is a fault of items and of pieces alike.
func (r *reader) look() head.Head {
	rest := r.bytes[r.at:]
	if len(rest) > 0 && nests(rest[0]) && r.open == r.depth {
		giveUp(api.ErrLooseDeep, r.at)
	}
	h, e := head.Read(rest)
	if e == api.ErrHeadShort || e == api.OK && tellsBytes(h) && uint64(len(rest)-h.Used) < h.N {
		giveUp(api.ErrLooseShort, r.at)
	}
	if e != api.OK {
		giveUp(api.ErrLooseForm, r.at)
	}
	return h
}

// more tells whether a list or a map goes on here, of which so many items or entries have been read. It goes behind the break that ends it.
func (r *reader) more(h head.Head, n uint64) bool {
	if h.Info == infoEndless {
		return !r.ended()
	}
	return n < h.N
}

// ended tells whether a break stands here, and goes behind it.
func (r *reader) ended() bool {
	if r.at == len(r.bytes) || r.bytes[r.at] != byteBreak {
		return false
	}
	r.at++
	return true
}

// take tells so many bytes that stand here, and goes behind them.
func (r *reader) take(n uint64) []byte {
	from := r.at
	r.at += int(n)
	return r.bytes[from:r.at]
}

// nests tells whether an item that begins with a byte is a list or a map.
func nests(first byte) bool {
	major := int(first >> infoBits)
	return major == api.MajorList || major == api.MajorMap
}

// tellsBytes tells whether a head's argument is how many bytes stand behind it.
func tellsBytes(h head.Head) bool {
	return (h.Major == api.MajorBytes || h.Major == api.MajorText) && h.Info != infoEndless
}
