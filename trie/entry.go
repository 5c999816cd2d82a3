package trie

import (
	"bytes"

	"trellis/api"
	"trellis/digest"
	"trellis/lay"
	"trellis/value"
)

// entry: a key with its path and its value.
type entry struct {
	key   []byte
	path  [32]byte
	value api.Value
}

// entryOf tells an entry; it holds what it is given, and is never told as it is.
func entryOf(key []byte, v api.Value) entry { return entry{key, digest.Sum(key), v} }

// told tells an entry as the face does.
func (x entry) told() api.Entry { return api.Entry{Key: x.key, Value: x.value} }

// byKey is the order of a bucket's entries.
func byKey(a, b entry) int { return bytes.Compare(a.key, b.key) }

// keyFits tells whether a trie may have such a key.
func keyFits(key []byte) bool { return len(key) <= api.MaxKey }

// valueFits tells whether a trie may have such a value.
func valueFits(v api.Value) bool {
	size, e := lay.Size(v)
	return e == api.OK && size <= api.MaxForm && value.Depth(v) <= api.MaxInner
}
