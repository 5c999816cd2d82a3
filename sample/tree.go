package sample

import (
	"slices"
	"strings"

	"trellis/api"
)

// Null tells a null.
func Null() api.Value { return api.Value{Kind: api.KindNull} }

// Whole tells a whole number.
func Whole(n uint64) api.Value { return api.Value{Kind: api.KindInt, N: n} }

// Float tells a float by its bits, whether it may be or not.
func Float(bits uint64) api.Value { return api.Value{Kind: api.KindFloat, Bits: bits} }

// Text tells a text, whether it may be or not.
func Text(s string) api.Value { return api.Value{Kind: api.KindText, Text: s} }

// Link tells a link of the bytes themselves.
func Link(digest string) api.Value {
	return api.Value{Kind: api.KindLink, Link: api.Link{Version: 1, Codec: api.CodecRaw, Digest: digest}}
}

// List tells a list.
func List(items ...api.Value) api.Value { return api.Value{Kind: api.KindList, Items: items} }

// Map tells a map, its keys in one text, a blank between two.
func Map(keys string, items ...api.Value) api.Value {
	return api.Value{Kind: api.KindMap, Keys: strings.Fields(keys), Items: items}
}

// Within tells a value within so many lists, if how is "l", or maps, if "m", or both in turn, as how's letters say, from the innermost on.
func Within(v api.Value, n int, how string) api.Value {
	for i := range n {
		if how[i%len(how)] == 'm' {
			v = Map("k", v)
		} else {
			v = List(v)
		}
	}
	return v
}

// Leaves tells one or more trees of each kind that has no items.
func Leaves() []api.Value {
	long := strings.Repeat("d", 32)
	return []api.Value{
		Null(), {Kind: api.KindBool}, {Kind: api.KindBool, Flag: true},
		Whole(0), Whole(1), Whole(1<<64 - 1),
		{Kind: api.KindInt, Neg: true}, {Kind: api.KindInt, Neg: true, N: 1<<64 - 1},
		Float(0), Float(1 << 63), Float(1), Float(0x3ff0000000000000), Float(0x7fefffffffffffff), Float(0xffefffffffffffff),
		Text(""), Text("a"), Text("\x00"), Text("\u00e4\ufffd\U0010ffff\ud7ff\ue000"),
		{Kind: api.KindBytes}, {Kind: api.KindBytes, Bytes: []byte{}}, {Kind: api.KindBytes, Bytes: []byte("a")}, {Kind: api.KindBytes, Bytes: []byte{0xff, 0}},
		Link(""), Link("a"), Link(strings.Repeat("x", 64)),
		{Kind: api.KindLink, Link: api.Link{Codec: api.CodecOld, Hash: api.HashSha, Digest: long}},
		{Kind: api.KindLink, Link: api.Link{Version: 1, Codec: api.CodecTree, Hash: api.HashSha, Digest: long}},
		{Kind: api.KindLink, Link: api.Link{Version: 1, Codec: 1<<63 - 1, Hash: api.HashSha, Digest: long}},
	}
}

// Tree tells some tree, whose depth is at most so great.
func (d *Dice) Tree(depth int) api.Value {
	kind := d.Below(4)
	if depth == 0 || kind == 0 {
		all := Leaves()
		return all[d.Below(len(all))]
	}
	v, n := api.Value{Kind: api.KindList}, d.Below(5)
	if kind > 1 {
		v = api.Value{Kind: api.KindMap, Keys: d.Keys(d.Below(6))}
		n = len(v.Keys)
	}
	for range n {
		v.Items = append(v.Items, d.Tree(depth-1))
	}
	return v
}

// Keys tells at most so many keys, none twice, of few unlike letters, so that lengths and beginnings meet.
func (d *Dice) Keys(n int) []string {
	letters := []string{"a", "b", "\x00", "\u00e4", "\U0001f600"}
	var list []string
	for range n {
		key := ""
		for range d.Below(4) {
			key += letters[d.Below(len(letters))]
		}
		if !slices.Contains(list, key) {
			list = append(list, key)
		}
	}
	return list
}

// Again tells a value in new memory, its lists not nil.
func Again(v api.Value) api.Value {
	v.Bytes = append([]byte{}, v.Bytes...)
	v.Keys = append([]string{}, v.Keys...)
	items := []api.Value{}
	for _, item := range v.Items {
		items = append(items, Again(item))
	}
	v.Items = items
	return v
}

// Mixed tells a tree again, each map's entries in some order, its empty lists nil or not.
func (d *Dice) Mixed(v api.Value) api.Value {
	m := v
	m.Bytes, m.Keys, m.Items = nil, nil, nil
	if d.Below(2) == 0 {
		m.Bytes, m.Keys, m.Items = []byte{}, []string{}, []api.Value{}
	}
	m.Bytes = append(m.Bytes, v.Bytes...)
	m.Keys = append(m.Keys, v.Keys...)
	for _, item := range v.Items {
		m.Items = append(m.Items, d.Mixed(item))
	}
	for i := len(m.Keys) - 1; i > 0; i-- {
		j := d.Below(i + 1)
		m.Keys[i], m.Keys[j] = m.Keys[j], m.Keys[i]
		m.Items[i], m.Items[j] = m.Items[j], m.Items[i]
	}
	return m
}

// Touched tells a value again, one thing in it made another: a tree or none, as it comes.
func (d *Dice) Touched(v api.Value) api.Value {
	v = Again(v)
	at := &v
	for len(at.Items) > 0 && d.Below(3) > 0 {
		at = &at.Items[d.Below(len(at.Items))]
	}
	switch d.Below(14) {
	case 0:
		at.Kind = d.Below(13) - 1
	case 1:
		at.Flag = !at.Flag
	case 2:
		at.Neg = !at.Neg
	case 3:
		at.N ^= 1
	case 4:
		at.Bits ^= 1 << 63
	case 5:
		*at = Float([]uint64{0x7ff0000000000000, 0xfff0000000000000, 0x7ff8000000000000, 0xffffffffffffffff, 0x7ff0000000000001}[d.Below(5)])
	case 6:
		at.Text += []string{"a", "\xff", "\xed\xa0\x80", "\xc0\x80", "\xe2\x82", "\xf4\x90\x80\x80"}[d.Below(6)]
	case 7:
		at.Bytes = append(at.Bytes, 0)
	case 8:
		at.Link.Version++
	case 9:
		at.Link.Digest += "x"
	case 10:
		at.Link.Codec ^= 1 << 63
	case 11:
		at.Keys = append(at.Keys, []string{"a", "", "\xff", "zz"}[d.Below(4)])
	case 12:
		at.Items = append(at.Items, []api.Value{Null(), Float(0x7ff0000000000000), Text("\xff"), {}}[d.Below(4)])
	case 13:
		if len(at.Keys) > 0 {
			at.Keys[d.Below(len(at.Keys))] = at.Keys[0]
		}
	}
	return v
}
