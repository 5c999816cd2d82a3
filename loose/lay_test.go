package loose

import (
	"math"
	"unicode/utf8"

	"trellis/api"
	"trellis/head"
	"trellis/link"
	"trellis/sample"
	"trellis/value"
)

// layer lays trees in other ways than the one form, as the dice say, and what is to be noted of them; and, if odd, now and then what has no meaning.
type layer struct {
	*sample.Dice
	b     []byte
	notes []api.Note
	odd   bool
}

// once tells whether something is to be done that is done one time out of so many.
func (l *layer) once(in int) bool { return l.Below(in) == 0 }

// note notes what comes next.
func (l *layer) note(what int) {
	l.notes = append(l.notes, api.Note{At: len(l.b), What: what})
}

// head lays a head, of any length that has room for its argument. A key that does not rise is noted behind its length.
func (l *layer) head(major int, n uint64, falls bool) {
	least := head.Size(n)
	used := least
	if l.once(4) {
		used = []int{1, 2, 3, 5, 9}[l.Below(5)]
	}
	if used <= least {
		l.order(falls)
		l.b = append(l.b, head.Lay(major, n)...)
		return
	}
	l.note(api.NoteLong)
	l.order(falls)
	info := map[int]byte{2: 24, 3: 25, 5: 26, 9: 27}[used]
	l.b = append(l.b, byte(major)<<5|info)
	for i := used - 2; i >= 0; i-- {
		l.b = append(l.b, byte(n>>(8*i)))
	}
}

// order notes a key that does not rise.
func (l *layer) order(falls bool) {
	if falls {
		l.note(api.NoteOrder)
	}
}

// endless lays the head of an endless item.
func (l *layer) endless(major int, falls bool) {
	l.note(api.NoteEndless)
	l.order(falls)
	l.b = append(l.b, byte(major)<<5|31)
}

// row lays a string, whole or in pieces. Those of a text are cut between its code points, if nothing is odd.
func (l *layer) row(major int, s string, falls bool) {
	if !l.once(3) {
		l.head(major, uint64(len(s)), falls)
		l.b = append(l.b, s...)
		return
	}
	l.endless(major, falls)
	for s != "" || l.once(4) {
		n := l.Below(len(s) + 1)
		for major == api.MajorText && n < len(s) && !utf8.RuneStart(s[n]) && !(l.odd && l.once(3)) {
			n++
		}
		l.head(major, uint64(n), false)
		l.b, s = append(l.b, s[:n]...), s[n:]
	}
	l.b = append(l.b, 0xff)
}

// float lays a float in any width that it has.
func (l *layer) float(bits uint64) {
	x := math.Float64frombits(bits)
	narrow := math.Float32bits(float32(x))
	switch {
	case l.once(2) && float64(math.Float32frombits(narrow)) == x:
		l.note(api.NoteNarrow)
		l.b = append(l.b, 0xfa, byte(narrow>>24), byte(narrow>>16), byte(narrow>>8), byte(narrow))
		return
	case l.once(2):
		for h := range 1 << 16 {
			if math.Float64bits(half(uint16(h))) == bits {
				l.note(api.NoteNarrow)
				l.b = append(l.b, 0xf9, byte(h>>8), byte(h))
				return
			}
		}
	}
	l.b = append(l.b, 0xfb)
	for i := 7; i >= 0; i-- {
		l.b = append(l.b, byte(bits>>(8*i)))
	}
}

// tree lays a tree.
func (l *layer) tree(v api.Value) {
	if l.odd && l.once(12) {
		l.strange()
		return
	}
	switch v.Kind {
	case api.KindNull:
		l.b = append(l.b, 0xf6)
	case api.KindBool:
		l.b = append(l.b, 0xf4)
		if v.Flag {
			l.b[len(l.b)-1]++
		}
	case api.KindInt:
		major := api.MajorInt
		if v.Neg {
			major = api.MajorNeg
		}
		l.head(major, v.N, false)
	case api.KindFloat:
		l.float(v.Bits)
	case api.KindText:
		l.row(api.MajorText, v.Text, false)
	case api.KindBytes:
		l.row(api.MajorBytes, string(v.Bytes), false)
	case api.KindLink:
		name, _ := link.Bytes(v.Link)
		l.head(api.MajorTag, 42, false)
		l.row(api.MajorBytes, "\x00"+string(name), false)
	default:
		l.nest(v)
	}
}

// nest lays a list or a map.
func (l *layer) nest(v api.Value) {
	major := api.MajorList
	if v.Kind == api.KindMap {
		major = api.MajorMap
	}
	ends := l.once(3)
	if ends {
		l.endless(major, false)
	} else {
		l.head(major, uint64(len(v.Items)), false)
	}
	for i, item := range v.Items {
		if major == api.MajorMap {
			l.key(v.Keys, i)
		}
		l.tree(item)
	}
	if ends {
		l.b = append(l.b, 0xff)
	}
}

// key lays a map's key.
func (l *layer) key(keys []string, i int) {
	switch {
	case l.odd && l.once(12):
		l.tree(l.Tree(2))
	case l.odd && l.once(8):
		l.row(api.MajorText, keys[l.Below(len(keys))], false)
	default:
		l.row(api.MajorText, keys[i], i > 0 && !value.Before(keys[i-1], keys[i]))
	}
}

// strange lays what is well-formed and has no meaning, or seldom one.
func (l *layer) strange() {
	names := []string{"", "\x00", "\x01\x55\x00\x02hi", "\x00\x01\x55\x00\x02hix", "\x00\x01\x55\x00\x02h", "\x00\x01\x55\x00\x02hi", "\x00\x12\x20"}
	switch l.Below(8) {
	case 0:
		l.b = append(l.b, []byte{0xe0, 0xf3, 0xf7}[l.Below(3)])
	case 1:
		l.b = append(l.b, 0xf8, byte(32+l.Below(224)))
	case 2:
		l.b = append(l.b, 0xf9, 0x7c|byte(l.Below(2)<<7), byte(l.Below(2)))
	case 3:
		l.b = append(l.b, 0xfa, 0x7f|byte(l.Below(2)<<7), 0x80|byte(l.Below(2)), 0, byte(l.Below(2)))
	case 4:
		l.b = append(l.b, 0xfb, 0x7f|byte(l.Below(2)<<7), 0xf0|byte(l.Below(2)), 0, 0, 0, 0, 0, byte(l.Below(2)))
	case 5:
		l.head(api.MajorTag, uint64(40+l.Below(4)), false)
		l.tree(l.Tree(2))
	case 6:
		l.row(api.MajorText, []string{"\xff", "a\xc3", "\xed\xa0\x80", "\u00e4\xe2\x82"}[l.Below(4)], false)
	default:
		l.head(api.MajorTag, 42, false)
		l.row(api.MajorBytes, names[l.Below(len(names))], false)
	}
}

// loosely tells a tree laid in some way, and what is to be noted of it.
func loosely(d *sample.Dice, v api.Value) ([]byte, []api.Note) {
	l := layer{Dice: d}
	l.tree(v)
	return l.b, l.notes
}

// oddly tells what is well-formed, and may have a meaning or none.
func oddly(d *sample.Dice, v api.Value) []byte {
	l := layer{Dice: d, odd: true}
	l.tree(v)
	return l.b
}
