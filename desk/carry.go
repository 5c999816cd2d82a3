package desk

import (
	"strconv"

	"trellis/api"
	"trellis/lay"
	"trellis/loose"
	"trellis/read"
)

// The lines that speak of whole depots and their blocks, and of trees by themselves.

func (o order) sweep() ([]string, api.Errno) { return counted(o.depots[0].Sweep()) }

func (o order) check() ([]string, api.Errno) { return counted(o.depots[0].Check()) }

func (o order) blocks() ([]string, api.Errno) {
	s := o.depots[0].Store()
	return told(lineOf(strconv.Itoa(s.Len()), strconv.Itoa(s.Size())))
}

func (o order) lose() ([]string, api.Errno) {
	if o.depots[0].Store().Delete(o.link) {
		return told("yes")
	}
	return told("no")
}

func (o order) force() ([]string, api.Errno) {
	return nil, o.depots[0].Store().Force(o.link, o.octets[0])
}

func (o order) copy() ([]string, api.Errno) {
	b, e := o.depots[0].Export(o.names[0])
	if e != api.OK {
		return nil, e
	}
	n, f := o.depots[1].Import(o.names[1], b)
	return counted(n, f.Code)
}

func (o order) fetch() ([]string, api.Errno) {
	from := o.depots[1].Depot
	return counted(o.depots[0].Fetch(from, o.names[1], o.names[0], o.numbers[0]))
}

func (o order) lay() ([]string, api.Errno) {
	b, e := lay.Encode(o.tree)
	if e != api.OK {
		return nil, e
	}
	return told(hexOf(b))
}

func (o order) read() ([]string, api.Errno) {
	v, f := read.Decode(o.octets[0], o.numbers[0])
	if f.Code != api.OK {
		return told(faultOf(f))
	}
	return told(treeOf(v))
}

func (o order) loose() ([]string, api.Errno) {
	v, notes, f := loose.Parse(o.octets[0], o.numbers[0])
	if f.Code != api.OK {
		return told(faultOf(f))
	}
	lines := []string{treeOf(v)}
	for _, x := range notes {
		lines = append(lines, lineOf("note", strconv.Itoa(x.What), strconv.Itoa(x.At)))
	}
	return told(lines...)
}
