package loose

import (
	"math"
	"slices"
	"sort"
	"unicode/utf8"

	"trellis/api"
	"trellis/head"
	"trellis/link"
	"trellis/number"
	"trellis/value"
)

// The infos of MajorOther that have a meaning.
const (
	infoFalse  = 20
	infoTrue   = 21
	infoNull   = 22
	infoHalf   = 25
	infoSingle = 26
	infoDouble = 27
)

const (
	linkTag = 42 // the argument of a link's tag
	nowhere = -1 // the place of what is not there
)

// interpreter reads what is known to be well-formed, and tells what it means. As it goes by rising places, it gives up at the first thing without a meaning.
type interpreter struct {
	reader
	notes []api.Note
}

// meaning tells the tree that well-formed bytes mean, each map's entries in keys' order, and the notes.
func meaning(b []byte, depth int) (api.Value, []api.Note) {
	in := interpreter{reader: reader{bytes: b, depth: depth}}
	v := in.tree()
	return v, in.notes
}

// tree tells what the item means that stands here.
func (in *interpreter) tree() api.Value {
	at := in.at
	h := in.noted(in.item())
	var v api.Value
	switch h.Major {
	case api.MajorNeg:
		v.Neg = true
		fallthrough
	case api.MajorInt:
		v.Kind, v.N = api.KindInt, h.N
	case api.MajorBytes:
		v.Kind, v.Bytes = api.KindBytes, in.octets(h)
	case api.MajorText:
		v.Kind, v.Text = api.KindText, in.text(h)
	case api.MajorList:
		v.Kind, v.Items = api.KindList, in.items(h)
	case api.MajorMap:
		v.Kind = api.KindMap
		v.Keys, v.Items = in.entries(h)
	case api.MajorTag:
		v.Kind, v.Link = api.KindLink, in.link(at, h)
	case api.MajorOther:
		return in.other(at, h)
	}
	return v
}

// items tells the items of a list.
func (in *interpreter) items(h head.Head) []api.Value {
	items := roomFor[api.Value](h)
	in.open++
	for in.more(h, uint64(len(items))) {
		items = append(items, in.tree())
	}
	in.open--
	return items
}

// entries tells the keys and the items of a map, in keys' order.
func (in *interpreter) entries(h head.Head) ([]string, []api.Value) {
	keys, items := roomFor[string](h), roomFor[api.Value](h)
	met := map[string]struct{}{}
	in.open++
	for in.more(h, uint64(len(keys))) {
		key := in.key(keys, met)
		met[key] = struct{}{}
		keys = append(keys, key)
		items = append(items, in.tree())
	}
	in.open--
	sort.Sort(byKey{keys, items})
	return keys, items
}

// key tells the text of the key that stands here, behind those that have been met in its map.
func (in *interpreter) key(ahead []string, met map[string]struct{}) string {
	at := in.at
	h := in.noted(in.item())
	if h.Major != api.MajorText {
		giveUp(api.ErrLooseMeaning, at)
	}
	behind := len(in.notes)
	text, bad := in.joined(h)
	// A key that stands twice is told at its own place, which is ahead of its pieces'.
	if _, twice := met[text]; twice {
		giveUp(api.ErrLooseMeaning, at)
	}
	if bad != nowhere {
		giveUp(api.ErrLooseMeaning, bad)
	}
	if n := len(ahead); n > 0 && !value.Before(ahead[n-1], text) {
		// Its pieces may have been noted already.
		in.notes = slices.Insert(in.notes, behind, api.Note{At: at, What: api.NoteOrder})
	}
	return text
}

// link tells the link of a tag whose head stands at a place.
func (in *interpreter) link(at int, tag head.Head) api.Link {
	if tag.N != linkTag {
		giveUp(api.ErrLooseMeaning, at)
	}
	h := in.noted(in.item())
	if h.Major != api.MajorBytes {
		giveUp(api.ErrLooseMeaning, at)
	}
	name := in.octets(h)
	if len(name) == 0 || name[0] != 0 {
		giveUp(api.ErrLooseMeaning, at)
	}
	l, e := link.Parse(name[1:])
	if e != api.OK {
		giveUp(api.ErrLooseMeaning, at)
	}
	return l
}

// other tells what an item of MajorOther means whose head stands at a place.
func (in *interpreter) other(at int, h head.Head) api.Value {
	var v api.Value
	bits := h.N
	switch h.Info {
	case infoTrue:
		v.Flag = true
		fallthrough
	case infoFalse:
		v.Kind = api.KindBool
	case infoNull:
		v.Kind = api.KindNull
	case infoHalf:
		bits = uint64(math.Float32bits(number.Single(number.FromHalf(uint16(bits)))))
		fallthrough
	case infoSingle:
		bits = math.Float64bits(float64(math.Float32frombits(uint32(bits))))
		in.note(at, api.NoteNarrow)
		fallthrough
	case infoDouble:
		if !number.Finite(math.Float64frombits(bits)) {
			giveUp(api.ErrLooseMeaning, at)
		}
		v.Kind, v.Bits = api.KindFloat, bits
	default:
		giveUp(api.ErrLooseMeaning, at)
	}
	return v
}

// octets tells the bytes of a string whose head has been read.
func (in *interpreter) octets(h head.Head) []byte {
	var all []byte
	in.eachPart(h, func(_ int, part []byte) { all = append(all, part...) })
	return all
}

// text tells the text of a string whose head has been read.
func (in *interpreter) text(h head.Head) string {
	text, bad := in.joined(h)
	if bad != nowhere {
		giveUp(api.ErrLooseMeaning, bad)
	}
	return text
}

// joined tells the text of a string whose head has been read, and the place of the first part of it that is no good UTF-8, if there is one.
func (in *interpreter) joined(h head.Head) (string, int) {
	var all []byte
	bad := nowhere
	in.eachPart(h, func(at int, part []byte) {
		if bad == nowhere && !utf8.Valid(part) {
			bad = at
		}
		all = append(all, part...)
	})
	return string(all), bad
}

// eachPart goes behind a string whose head has just been read, and hands on its bytes and its place, or those of each piece.
func (in *interpreter) eachPart(h head.Head, hand func(at int, part []byte)) {
	if h.Info != infoEndless {
		at := in.at - h.Used
		hand(at, in.take(h.N))
		return
	}
	for !in.ended() {
		at := in.at
		piece := in.noted(in.piece(h.Major))
		hand(at, in.take(piece.N))
	}
}

// noted tells a head that has just been read, and notes what in it is not of the one form.
func (in *interpreter) noted(h head.Head) head.Head {
	at := in.at - h.Used
	if !h.Short {
		in.note(at, api.NoteLong)
	}
	if h.Info == infoEndless {
		in.note(at, api.NoteEndless)
	}
	return h
}

// note notes what stands at a place.
func (in *interpreter) note(at, what int) {
	in.notes = append(in.notes, api.Note{At: at, What: what})
}

// roomFor tells an empty list with room for as many things as a head says. Of what is well-formed so many stand behind the head, each with a byte at least.
func roomFor[T any](h head.Head) []T { return slices.Grow([]T(nil), int(h.N)) }

// byKey is the entries of a map as sort.Sort asks for them.
type byKey struct {
	keys  []string
	items []api.Value
}

func (m byKey) Len() int           { return len(m.keys) }
func (m byKey) Less(i, j int) bool { return value.Before(m.keys[i], m.keys[j]) }
func (m byKey) Swap(i, j int) {
	m.keys[i], m.keys[j] = m.keys[j], m.keys[i]
	m.items[i], m.items[j] = m.items[j], m.items[i]
}
