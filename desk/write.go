package desk

import "trellis/api"

// The lines that change heads by ops.

func (o order) set() ([]string, api.Errno) {
	return o.depots[0].take(api.Op{Kind: api.OpSet, Head: o.names[0], Key: o.key, Value: o.tree})
}

func (o order) delete() ([]string, api.Errno) {
	return o.depots[0].take(api.Op{Kind: api.OpDelete, Head: o.names[0], Key: o.key})
}

func (o order) append() ([]string, api.Errno) {
	if o.beyond {
		return nil, api.ErrNumberRange
	}
	return o.depots[0].take(api.Op{Kind: api.OpAppend, Head: o.names[0], Key: o.key, Samples: o.samples})
}

func (o order) branch() ([]string, api.Errno) {
	return o.depots[0].take(api.Op{Kind: api.OpBranch, Head: o.names[0], Other: o.names[1]})
}

func (o order) drop() ([]string, api.Errno) {
	return o.depots[0].take(api.Op{Kind: api.OpDrop, Head: o.names[0]})
}

func (o order) merge() ([]string, api.Errno) {
	return o.depots[0].take(api.Op{
		Kind:   api.OpMerge,
		Head:   o.names[0],
		Other:  o.names[1],
		Ours:   o.side == "ours",
		Theirs: o.side == "theirs",
	})
}

func (o order) begin() ([]string, api.Errno) { return nil, o.depots[0].begin() }

func (o order) commit() ([]string, api.Errno) {
	ops, e := o.depots[0].end()
	if e != api.OK {
		return nil, e
	}
	return o.depots[0].do(o.names[0], ops...)
}

func (o order) cancel() ([]string, api.Errno) {
	_, e := o.depots[0].end()
	return nil, e
}
