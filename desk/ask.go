package desk

import (
	"strconv"

	"trellis/api"
	"trellis/change"
	"trellis/column"
	"trellis/number"
	"trellis/proof"
)

// The lines that ask what heads hold.

func (o order) get() ([]string, api.Errno) { return valued(o.depots[0].Get(o.names[0], o.key)) }

func (o order) entries() ([]string, api.Errno) {
	all, e := o.depots[0].Entries(o.names[0])
	if e != api.OK {
		return nil, e
	}
	var lines []string
	for _, x := range all {
		lines = append(lines, lineOf(keyText(x.Key), treeOf(x.Value)))
	}
	return told(lines...)
}

func (o order) heads() ([]string, api.Errno) {
	var lines []string
	for _, name := range o.depots[0].Heads() {
		l, _ := o.depots[0].Head(name)
		lines = append(lines, lineOf(textOf(name), linkOf(l)))
	}
	return told(lines...)
}

func (o order) log() ([]string, api.Errno) {
	log, e := o.depots[0].Log(o.names[0], o.numbers[0])
	if e != api.OK {
		return nil, e
	}
	var lines []string
	for _, c := range log {
		lines = append(lines, lineOf(strconv.FormatUint(c.At, 10), linkOf(c.Root), textOf(c.Note)))
	}
	return told(lines...)
}

func (o order) prove() ([]string, api.Errno) {
	roots, e := o.roots()
	if e != api.OK {
		return nil, e
	}
	blocks, e := proof.Prove(o.depots[0].Store(), roots[0], o.key)
	if e != api.OK {
		return nil, e
	}
	var lines []string
	for _, b := range blocks {
		lines = append(lines, hexOf(b))
	}
	return told(lines...)
}

func (o order) verify() ([]string, api.Errno) { return valued(proof.Verify(o.link, o.key, o.octets)) }

func (o order) diff() ([]string, api.Errno) {
	roots, e := o.roots()
	if e != api.OK {
		return nil, e
	}
	changes, e := change.Diff(o.depots[0].Store(), roots[0], roots[1])
	if e != api.OK {
		return nil, e
	}
	var lines []string
	for _, c := range changes {
		lines = append(lines, lineOf(keyText(c.Key), orNone(c.Old, c.Had), orNone(c.New, c.Has)))
	}
	return told(lines...)
}

// roots tells the roots of the heads that are named. All heads are asked ahead of any commit.
func (o order) roots() ([]api.Link, api.Errno) {
	var roots []api.Link
	for _, name := range o.names {
		l, is := o.depots[0].Head(name)
		if !is {
			return nil, api.ErrDepotHead
		}
		roots = append(roots, l)
	}
	for i, l := range roots {
		c, e := o.depots[0].Commit(l)
		if e != api.OK {
			return nil, e
		}
		roots[i] = c.Root
	}
	return roots, api.OK
}

func (o order) count() ([]string, api.Errno) {
	l, e := o.column()
	if e != api.OK {
		return nil, e
	}
	return counted(column.Len(o.depots[0].Store(), l))
}

func (o order) sum() ([]string, api.Errno) {
	l, e := o.column()
	if e != api.OK {
		return nil, e
	}
	x, e := column.Sum(o.depots[0].Store(), l, o.numbers[0], o.numbers[1])
	if e != api.OK {
		return nil, e
	}
	return told(number.Print(x))
}

func (o order) ends() ([]string, api.Errno) {
	l, e := o.column()
	if e != api.OK {
		return nil, e
	}
	least, greatest, e := column.Ends(o.depots[0].Store(), l, o.numbers[0], o.numbers[1])
	if e != api.OK {
		return nil, e
	}
	return told(lineOf(number.Print32(least), number.Print32(greatest)))
}

// column tells the link that a key's value is.
func (o order) column() (api.Link, api.Errno) {
	v, is, e := o.depots[0].Get(o.names[0], o.key)
	if e != api.OK {
		return api.Link{}, e
	}
	if !is || v.Kind != api.KindLink {
		return api.Link{}, api.ErrDepotRow
	}
	return v.Link, api.OK
}
