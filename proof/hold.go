package proof

import (
	"trellis/api"
	"trellis/digest"
	"trellis/link"
)

// against tells what there is against taking the first of some blocks as a link's.
func against(l api.Link, blocks [][]byte) api.Errno {
	switch {
	case link.Check(l) != api.OK:
		return api.ErrStoreLink
	case len(blocks) == 0:
		return api.ErrProofShort
	case !holds(l, blocks[0]):
		return api.ErrProofBad
	}
	return api.OK
}

// holds tells whether a link that may be holds a block.
func holds(l api.Link, b []byte) bool {
	if l.Hash != api.HashSha {
		// A root alone can be such a link: those in right nodes are tree blocks'.
		return link.Holds(l, b)
	}
	return sumIn(l) == digest.Sum(b)
}

// sumIn tells the SHA-256 in a link.
func sumIn(l api.Link) [32]byte {
	var sum [32]byte
	copy(sum[:], l.Digest)
	return sum
}
