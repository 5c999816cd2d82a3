package read

import (
	"math"
	"unicode/utf8"

	"trellis/api"
	"trellis/head"
	"trellis/link"
)

// What stands in this file is a plain second reading of the chapter: its table of faults row by row, and a recursion where the machine has none.

// place is where an item is wanted, and as what; behind a key of the same map, if there is one.
type place struct {
	bytes []byte
	at    int
	depth int
	open  int
	as    string
	ahead []string
}

// deep tells the table's first row.
func (p place) deep() bool {
	if p.at >= len(p.bytes) {
		return false
	}
	major := p.bytes[p.at] / 32
	return (major == 4 || major == 5) && p.open == p.depth
}

// short tells the second row.
func (p place) short() bool {
	h, e := head.Read(p.bytes[p.at:])
	if e == api.ErrHeadShort {
		return true
	}
	if e != api.OK || h.Info == 31 || h.Major != api.MajorBytes && h.Major != api.MajorText {
		return false
	}
	return uint64(len(p.bytes)-p.at-h.Used) < h.N
}

// body tells the bytes behind the head of a text or of bytes that are whole.
func (p place) body(h head.Head) string {
	if h.Major != api.MajorBytes && h.Major != api.MajorText {
		return ""
	}
	from := p.at + h.Used
	return string(p.bytes[from : from+int(h.N)])
}

// forbidden tells the third row, where the two ahead do not apply.
func (p place) forbidden() bool {
	h, e := head.Read(p.bytes[p.at:])
	if e == api.ErrHeadInfo || h.Info == 31 {
		return true
	}
	if h.Major == api.MajorTag && h.N != 42 {
		return true
	}
	if h.Major == api.MajorOther {
		switch f := math.Float64frombits(h.N); p.bytes[p.at] {
		case 0xf4, 0xf5, 0xf6:
		case 0xfb:
			if math.IsInf(f, 0) || math.IsNaN(f) {
				return true
			}
		default:
			return true
		}
	}
	body := p.body(h)
	if h.Major == api.MajorText && !utf8.ValidString(body) || p.as == "key" && h.Major != api.MajorText {
		return true
	}
	if p.as != "name" {
		return false
	}
	if h.Major != api.MajorBytes || body == "" || body[0] != 0 {
		return true
	}
	_, e = link.Parse([]byte(body[1:]))
	return e != api.OK
}

// other tells the last row, where those ahead do not apply.
func (p place) other() bool {
	h, _ := head.Read(p.bytes[p.at:])
	if !h.Short {
		return true
	}
	if p.as != "key" || len(p.ahead) == 0 {
		return false
	}
	last, body := p.ahead[len(p.ahead)-1], p.body(h)
	return len(last) > len(body) || len(last) == len(body) && last >= body
}

// code tells the fault at a place.
func (p place) code() api.Errno {
	switch {
	case p.deep():
		return api.ErrReadDeep
	case p.short():
		return api.ErrReadShort
	case p.forbidden():
		return api.ErrReadForbidden
	case p.other():
		return api.ErrReadForm
	}
	return api.OK
}

// whole tells the tree at a place and the place behind it, or the first fault.
func (p place) whole() (api.Value, int, api.Fault) {
	if e := p.code(); e != api.OK {
		return api.Value{}, 0, api.Fault{Code: e, At: p.at}
	}
	h, _ := head.Read(p.bytes[p.at:])
	body := p.body(h)
	behind := p.at + h.Used + len(body)
	switch {
	case p.as == "name":
		l, _ := link.Parse([]byte(body[1:]))
		return api.Value{Kind: api.KindLink, Link: l}, behind, api.Fault{}
	case h.Major == api.MajorTag:
		return place{bytes: p.bytes, at: behind, depth: p.depth, open: p.open, as: "name"}.whole()
	case h.Major == api.MajorList, h.Major == api.MajorMap:
		return p.nested(h.Major == api.MajorMap, h.N, behind)
	case h.Major == api.MajorInt, h.Major == api.MajorNeg:
		return api.Value{Kind: api.KindInt, Neg: h.Major == api.MajorNeg, N: h.N}, behind, api.Fault{}
	case h.Major == api.MajorBytes:
		return api.Value{Kind: api.KindBytes, Bytes: []byte(body)}, behind, api.Fault{}
	case h.Major == api.MajorText:
		return api.Value{Kind: api.KindText, Text: body}, behind, api.Fault{}
	case h.Info == 27:
		return api.Value{Kind: api.KindFloat, Bits: h.N}, behind, api.Fault{}
	case h.Info == 22:
		return api.Value{Kind: api.KindNull}, behind, api.Fault{}
	}
	return api.Value{Kind: api.KindBool, Flag: h.Info == 21}, behind, api.Fault{}
}

// nested tells the list or the map whose items stand at a place.
func (p place) nested(isMap bool, n uint64, at int) (api.Value, int, api.Fault) {
	v := api.Value{Kind: api.KindList}
	if isMap {
		v.Kind = api.KindMap
	}
	for range n {
		if isMap {
			k, next, f := place{p.bytes, at, p.depth, p.open + 1, "key", v.Keys}.whole()
			if f != (api.Fault{}) {
				return api.Value{}, 0, f
			}
			v.Keys, at = append(v.Keys, k.Text), next
		}
		item, next, f := place{p.bytes, at, p.depth, p.open + 1, "plain", nil}.whole()
		if f != (api.Fault{}) {
			return api.Value{}, 0, f
		}
		v.Items, at = append(v.Items, item), next
	}
	return v, at, api.Fault{}
}

// firstOf tells what First tells.
func firstOf(b []byte, depth int) (api.Value, int, api.Fault) {
	if depth < 0 || depth > 1024 {
		return api.Value{}, 0, api.Fault{Code: api.ErrReadDepth}
	}
	return place{bytes: b, depth: depth, as: "plain"}.whole()
}
