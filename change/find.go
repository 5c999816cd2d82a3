package change

import (
	"bytes"
	"slices"

	"trellis/api"
	"trellis/digest"
)

// finder tells a trie's values as trie.Get does, but reads each node once: a patch may have many keys, and their nodes may be great.
type finder struct {
	reader
	top *known
}

// known: a node that has been read, and, element by element, the one below it, if that has been.
type known struct {
	elements []api.Element
	below    []*known
}

func knownOf(elements []api.Element) *known {
	return &known{elements, make([]*known, len(elements))}
}

// against tells what there is against a change.
func (f finder) against(c api.Change) api.Errno {
	v, is, e := f.get(c.Key)
	if e != api.OK {
		return e
	}
	if is != c.Had || is && !equal(c.Old, v) {
		return api.ErrChangeOld
	}
	return api.OK
}

// get tells a key's value, and whether it has one.
func (f finder) get(key []byte) (api.Value, bool, api.Errno) {
	if len(key) > api.MaxKey {
		return api.Value{}, false, api.ErrTrieKey
	}
	bucket, e := f.bucket(digest.Sum(key))
	if e != api.OK {
		return api.Value{}, false, e
	}
	at := slices.IndexFunc(bucket, func(y api.Entry) bool { return bytes.Equal(y.Key, key) })
	if at < 0 {
		return api.Value{}, false, api.OK
	}
	return bucket[at].Value, true, api.OK
}

// bucket tells the entries among which a key of that digest would stand.
func (f finder) bucket(sum [32]byte) ([]api.Entry, api.Errno) {
	n := f.top
	var path []int
	for {
		slice := sliceOf(sum, f.widths.Width, len(path))
		at, is := slices.BinarySearchFunc(n.elements, api.Element{Slice: slice}, sliceOrder)
		if !is {
			return nil, api.OK
		}
		x := n.elements[at]
		if !isLink(x) {
			return x.Entries, api.OK
		}
		path = append(path, slice)
		if n.below[at] == nil {
			elements, e := f.node(path, x.Below)
			if e != api.OK {
				return nil, e
			}
			n.below[at] = knownOf(elements)
		}
		n = n.below[at]
	}
}

// sliceOf tells a digest's slice of a level: its bits from level * width on, the first one the highest.
func sliceOf(sum [32]byte, width, level int) int {
	n := 0
	for bit := level * width; bit < (level+1)*width; bit++ {
		n = n<<1 | int(sum[bit/8]>>(7-bit%8)&1)
	}
	return n
}
