package loose

import (
	"cmp"
	"math"
	"slices"
	"unicode/utf8"

	"trellis/api"
	"trellis/head"
	"trellis/link"
	"trellis/value"
)

// What stands in this file is a plain second reading of the chapter: the bytes become things in one another, by recursion, and of these each row of its tables is asked by itself.

// thing is an item or a piece as it stands in the bytes: of a string of known length its bytes; of an endless one its pieces, of a list its items, of a map its keys and items by turns, of a tag its item.
type thing struct {
	at    int
	head  head.Head
	bytes []byte
	below []thing
}

// spot is where an item is wanted, or a piece of a string of a major (else there is none); and whether a break may stand there.
type spot struct {
	bytes       []byte
	at          int
	depth, open int
	piece       int
	breaks      bool
}

const noPiece = -1

// endless tells whether a head has the info of an endless item or a break.
func endless(h head.Head) bool { return h.Info == 31 }

// stringed tells whether a head is that of bytes or of a text.
func stringed(h head.Head) bool { return h.Major == 2 || h.Major == 3 }

// deep tells the first row of the table of faults.
func (s spot) deep() bool {
	return s.at < len(s.bytes) && (s.bytes[s.at]/32 == 4 || s.bytes[s.at]/32 == 5) && s.open == s.depth
}

// short tells the second row.
func (s spot) short() bool {
	h, e := head.Read(s.bytes[s.at:])
	if e != api.OK {
		return e == api.ErrHeadShort
	}
	return stringed(h) && !endless(h) && uint64(len(s.bytes)-s.at-h.Used) < h.N
}

// none tells the third row, where the two ahead do not apply.
func (s spot) none() bool {
	h, e := head.Read(s.bytes[s.at:])
	isBreak := h.Major == 7 && endless(h)
	switch {
	case e == api.ErrHeadInfo:
		return true
	case isBreak:
		return !s.breaks
	}
	return s.piece != noPiece && (h.Major != s.piece || endless(h))
}

// code tells the fault at a spot.
func (s spot) code() api.Errno {
	switch {
	case s.deep():
		return api.ErrLooseDeep
	case s.short():
		return api.ErrLooseShort
	case s.none():
		return api.ErrLooseForm
	}
	return api.OK
}

// thing tells what stands at a spot, and the place behind it; or the first fault.
func (s spot) thing() (thing, int, api.Fault) {
	if e := s.code(); e != api.OK {
		return thing{}, 0, api.Fault{Code: e, At: s.at}
	}
	h, _ := head.Read(s.bytes[s.at:])
	t, at := thing{at: s.at, head: h}, s.at+h.Used
	in := spot{bytes: s.bytes, depth: s.depth, open: s.open, piece: noPiece}
	turn := 1
	switch {
	case stringed(h) && !endless(h):
		t.bytes = s.bytes[at : at+int(h.N)]
		return t, at + int(h.N), api.Fault{}
	case stringed(h):
		in.piece = h.Major
	case h.Major == api.MajorMap:
		in.open, turn = s.open+1, 2
	case h.Major == api.MajorList:
		in.open = s.open + 1
	case h.Major == api.MajorTag:
		h.N = 1
	default:
		return t, at, api.Fault{}
	}
	for n := uint64(0); endless(h) || n < h.N; n++ {
		for i := range turn {
			in.at, in.breaks = at, endless(h) && i == 0
			one, next, f := in.thing()
			if f != (api.Fault{}) {
				return thing{}, 0, f
			}
			at = next
			if one.head.Major == 7 && endless(one.head) {
				return t, at, api.Fault{}
			}
			t.below = append(t.below, one)
		}
	}
	return t, at, api.Fault{}
}

// wholeOf tells what P9.1 says, and the thing that the bytes are.
func wholeOf(b []byte, depth int) (thing, api.Fault) {
	if depth < 0 || depth > 1024 {
		return thing{}, api.Fault{Code: api.ErrLooseDepth}
	}
	t, at, f := spot{bytes: b, depth: depth, piece: noPiece}.thing()
	if f == (api.Fault{}) && at < len(b) {
		f = api.Fault{Code: api.ErrLooseLeft, At: at}
	}
	return t, f
}

// parts tells a string of known length, or the pieces of an endless one.
func (t thing) parts() []thing {
	if endless(t.head) {
		return t.below
	}
	return []thing{t}
}

// content tells the bytes of a string.
func (t thing) content() []byte {
	var all []byte
	for _, part := range t.parts() {
		all = append(all, part.bytes...)
	}
	return all
}

// float tells the float of an item of MajorOther, if it is one.
func (t thing) float() (float64, bool) {
	switch t.head.Info {
	case 25:
		return half(uint16(t.head.N)), true
	case 26:
		return float64(math.Float32frombits(uint32(t.head.N))), true
	case 27:
		return math.Float64frombits(t.head.N), true
	}
	return 0, false
}

// half tells the float of 16 bits, as RFC 8949 puts it together.
func half(h uint16) float64 {
	exponent, fraction := int(h>>10&31), float64(h&1023)
	x := math.Ldexp(fraction+1024, exponent-25)
	switch {
	case exponent == 0:
		x = math.Ldexp(fraction, -24)
	case exponent == 31 && fraction == 0:
		x = math.Inf(1)
	case exponent == 31:
		x = math.NaN()
	}
	if h>>15 == 1 {
		return math.Copysign(x, -1)
	}
	return x
}

// named tells the link of a tag, if it has one.
func (t thing) named() (api.Link, bool) {
	name := t.below[0]
	if t.head.N != 42 || name.head.Major != api.MajorBytes {
		return api.Link{}, false
	}
	b := name.content()
	if len(b) == 0 || b[0] != 0 {
		return api.Link{}, false
	}
	l, e := link.Parse(b[1:])
	return l, e == api.OK
}

// senseless tells all places where something is without a meaning.
func (t thing) senseless() []int {
	var places []int
	for _, one := range t.below {
		if !stringed(t.head) {
			places = append(places, one.senseless()...)
		}
	}
	switch t.head.Major {
	case api.MajorText:
		for _, part := range t.parts() {
			if !utf8.Valid(part.bytes) {
				places = append(places, part.at)
			}
		}
	case api.MajorMap:
		for i := 0; i < len(t.below); i += 2 {
			key := t.below[i]
			if key.head.Major != api.MajorText {
				places = append(places, key.at)
			}
			for j := 0; j < i; j += 2 {
				if other := t.below[j]; other.head.Major == api.MajorText && string(other.content()) == string(key.content()) {
					places = append(places, key.at)
				}
			}
		}
	case api.MajorTag:
		if _, ok := t.named(); !ok {
			places = append(places, t.at)
		}
	case api.MajorOther:
		x, isFloat := t.float()
		simple := t.head.Info == 20 || t.head.Info == 21 || t.head.Info == 22
		if !isFloat && !simple || isFloat && (math.IsNaN(x) || math.IsInf(x, 0)) {
			places = append(places, t.at)
		}
	}
	return places
}

// tree tells what a thing means which has a meaning, each map's entries as they stand.
func (t thing) tree() api.Value {
	h := t.head
	switch h.Major {
	case api.MajorInt, api.MajorNeg:
		return api.Value{Kind: api.KindInt, Neg: h.Major == api.MajorNeg, N: h.N}
	case api.MajorBytes:
		return api.Value{Kind: api.KindBytes, Bytes: t.content()}
	case api.MajorText:
		return api.Value{Kind: api.KindText, Text: string(t.content())}
	case api.MajorTag:
		l, _ := t.named()
		return api.Value{Kind: api.KindLink, Link: l}
	case api.MajorList:
		v := api.Value{Kind: api.KindList}
		for _, one := range t.below {
			v.Items = append(v.Items, one.tree())
		}
		return v
	case api.MajorMap:
		v := api.Value{Kind: api.KindMap}
		for i := 0; i < len(t.below); i += 2 {
			v.Keys, v.Items = append(v.Keys, string(t.below[i].content())), append(v.Items, t.below[i+1].tree())
		}
		return v
	}
	if x, ok := t.float(); ok {
		return api.Value{Kind: api.KindFloat, Bits: math.Float64bits(x)}
	}
	if h.Info == 22 {
		return api.Value{Kind: api.KindNull}
	}
	return api.Value{Kind: api.KindBool, Flag: h.Info == 21}
}

// noted tells all notes of a thing that has a meaning, in no order.
func (t thing) noted() []api.Note {
	var notes []api.Note
	add := func(at, what int, applies bool) {
		if applies {
			notes = append(notes, api.Note{At: at, What: what})
		}
	}
	for i, one := range t.below {
		notes = append(notes, one.noted()...)
		if t.head.Major == api.MajorMap && i%2 == 0 && i > 0 {
			last, text := string(t.below[i-2].content()), string(one.content())
			add(one.at, api.NoteOrder, len(last) > len(text) || len(last) == len(text) && last >= text)
		}
	}
	add(t.at, api.NoteLong, !t.head.Short)
	add(t.at, api.NoteEndless, endless(t.head))
	add(t.at, api.NoteNarrow, t.head.Major == 7 && (t.head.Info == 25 || t.head.Info == 26))
	return notes
}

// parseOf tells what P9.2 says.
func parseOf(b []byte, depth int) (api.Value, []api.Note, api.Fault) {
	t, f := wholeOf(b, depth)
	if f != (api.Fault{}) {
		return api.Value{}, nil, f
	}
	if places := t.senseless(); len(places) > 0 {
		return api.Value{}, nil, api.Fault{Code: api.ErrLooseMeaning, At: slices.Min(places)}
	}
	notes := t.noted()
	slices.SortFunc(notes, func(a, b api.Note) int { return cmp.Or(a.At-b.At, a.What-b.What) })
	return value.Sorted(t.tree()), notes, api.Fault{}
}
