package read

import (
	"trellis/api"
	"trellis/value"
)

// What an item is wanted as.
const (
	plain = iota
	key
	name // what stands behind a link's tag
)

// machine is where a reading stands: the first place behind what has been read, and the lists and maps that are open there, the outermost first.
type machine struct {
	bytes []byte
	at    int
	depth int
	open  []nest
}

// nest is a list or a map as far as it has been read, and how many items of it are still wanted.
type nest struct {
	value api.Value
	left  uint64
}

// run tells the tree that stands at the machine's place, which goes behind it; or the first fault, whose place it then has.
func (m *machine) run() (api.Value, api.Errno) {
	var it item
	var v api.Value
	var e api.Errno

plainItem:
	if it, e = m.take(plain); e != api.OK {
		return api.Value{}, e
	}
	switch it.head.Major {
	case api.MajorTag:
		goto nameItem
	case api.MajorList:
		m.begin(api.KindList, it.head.N)
		goto inside
	case api.MajorMap:
		m.begin(api.KindMap, it.head.N)
		goto inside
	}
	v = it.leaf()
	goto done

nameItem:
	if it, e = m.take(name); e != api.OK {
		return api.Value{}, e
	}
	v = api.Value{Kind: api.KindLink, Link: it.link}

done:
	if len(m.open) == 0 {
		return v, api.OK
	}
	m.add(v)

inside:
	if m.top().left == 0 {
		v = m.end()
		goto done
	}
	if m.top().value.Kind == api.KindList {
		goto plainItem
	}
	if it, e = m.take(key); e != api.OK {
		return api.Value{}, e
	}
	m.addKey(it.text)
	goto plainItem
}

// take tells the item that is wanted at the machine's place, which goes behind what has been read of it; or the fault there.
func (m *machine) take(want int) (item, api.Errno) {
	rest := m.bytes[m.at:]
	if m.tooDeep(rest) {
		return item{}, api.ErrReadDeep
	}
	it, e := look(rest, want)
	if e != api.OK {
		return item{}, e
	}
	if !it.head.Short || want == key && !m.rises(it.text) {
		return item{}, api.ErrReadForm
	}
	m.at += it.head.Used + len(it.body)
	return it, api.OK
}

// tooDeep tells whether bytes begin as a list or a map, and no more may be open. It asks the first byte alone, as this comes ahead of all that a head may have.
func (m *machine) tooDeep(rest []byte) bool {
	return len(rest) > 0 && nests(rest[0]) && len(m.open) == m.depth
}

// rises tells whether a key stands behind the one ahead of it in the innermost map, if there is one.
func (m *machine) rises(text string) bool {
	keys := m.top().value.Keys
	return len(keys) == 0 || value.Before(keys[len(keys)-1], text)
}

// top tells the innermost list or map that is open.
func (m *machine) top() *nest { return &m.open[len(m.open)-1] }

// begin opens a list or a map of so many items. No room is made for them ahead: the number may be any, whatever stands behind it.
func (m *machine) begin(kind int, n uint64) {
	m.open = append(m.open, nest{value: api.Value{Kind: kind}, left: n})
}

// add lays the next item into the innermost list or map.
func (m *machine) add(v api.Value) {
	in := m.top()
	in.value.Items = append(in.value.Items, v)
	in.left--
}

// addKey lays the key of the next item into the innermost map.
func (m *machine) addKey(text string) {
	in := m.top()
	in.value.Keys = append(in.value.Keys, text)
}

// end tells the innermost list or map, which is open no more.
func (m *machine) end() api.Value {
	v := m.top().value
	m.open = m.open[:len(m.open)-1]
	return v
}
