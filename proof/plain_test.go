package proof

// The chapter read a second time, plainly: which block is wanted next is told by trie.Get itself, over stores that have ever one block more.

import (
	"fmt"
	"maps"
	"slices"
	"testing"

	"trellis/api"
	"trellis/link"
	"trellis/read"
	"trellis/store"
	"trellis/trie"
	"trellis/value"
)

// wanted: of the links in a block the one whose block trie.Get comes to next: the one under which it finds other bytes, if there are any.
func wanted(t *testing.T, on *store.Store, root api.Link, key, b []byte) api.Link {
	t.Helper()
	v, f := read.Decode(b, api.MaxDepth)
	if f != (api.Fault{}) {
		t.Fatal(f)
	}
	for _, l := range value.Links(v) {
		if on.Has(l) || on.Force(l, []byte("other")) != api.OK {
			continue
		}
		_, _, e := trie.Get(on, root, key)
		on.Delete(l)
		if e == api.ErrStoreBad {
			return l
		}
	}
	t.Fatal("trie.Get wants a block, and none that the last one tells")
	return api.Link{}
}

// plainProve: the blocks that trie.Get reads, in its order.
func plainProve(t *testing.T, s *store.Store, root api.Link, key []byte) ([][]byte, api.Errno) {
	t.Helper()
	if _, _, e := trie.Get(s, root, key); e != api.OK {
		return nil, e
	}
	on := made(t, api.MaxBlocks)
	var row [][]byte
	for l := root; ; {
		b, e := s.Get(l)
		if e != api.OK || on.Force(l, b) != api.OK {
			t.Fatal(e)
		}
		row = append(row, b)
		if _, _, e := trie.Get(on, root, key); e != api.ErrStoreNone {
			return row, api.OK
		}
		l = wanted(t, on, root, key, b)
	}
}

// plainVerify: what trie.Get would tell, if it read these blocks in turn.
func plainVerify(t *testing.T, root api.Link, key []byte, row [][]byte) (api.Value, bool, api.Errno) {
	t.Helper()
	if len(key) > api.MaxKey {
		return api.Value{}, false, api.ErrTrieKey
	}
	if link.Check(root) != api.OK {
		return api.Value{}, false, api.ErrStoreLink
	}
	on := made(t, api.MaxBlocks)
	l := root
	for i, b := range row {
		if !link.Holds(l, b) {
			return api.Value{}, false, api.ErrProofBad
		}
		if on.Force(l, b) != api.OK { // a link of the bytes themselves, or a block that is too long
			return api.Value{}, false, api.ErrTrieNode
		}
		v, is, e := trie.Get(on, root, key)
		if e == api.OK && i+1 < len(row) {
			return api.Value{}, false, api.ErrProofLeft
		}
		if e != api.ErrStoreNone {
			return v, is, e
		}
		l = wanted(t, on, root, key, b)
	}
	return api.Value{}, false, api.ErrProofShort
}

// written: a value as a text, field by field, in which nil and empty lists are one.
func written(v api.Value) string {
	text := fmt.Sprintf("{%d %v %v %d %x %q %x %d %d %d %q %q", v.Kind, v.Flag, v.Neg, v.N, v.Bits, v.Text, v.Bytes, v.Link.Version, v.Link.Codec, v.Link.Hash, v.Link.Digest, v.Keys)
	for _, item := range v.Items {
		text += " " + written(item)
	}
	return text + "}"
}

// alike: whether two rows have the same blocks.
func alike(a, b [][]byte) bool {
	return slices.EqualFunc(a, b, func(x, y []byte) bool { return string(x) == string(y) })
}

// proves: Prove, held against the plain reading; the store is as it was.
func proves(t *testing.T, s *store.Store, root api.Link, key string) ([][]byte, api.Errno) {
	t.Helper()
	want, bad := plainProve(t, s, root, []byte(key))
	was := standing(s)
	row, e := Prove(s, root, []byte(key))
	if e != bad || !alike(row, want) || e != api.OK && row != nil {
		t.Fatalf("Prove of %.20q: %d blocks, %d; want %d, %d", key, len(row), e, len(want), bad)
	}
	if !maps.Equal(standing(s), was) {
		t.Fatalf("Prove of %.20q has changed the store", key)
	}
	return row, e
}

// verifies: Verify, held against the plain reading.
func verifies(t *testing.T, root api.Link, key string, row [][]byte) (api.Value, bool, api.Errno) {
	t.Helper()
	want, there, bad := plainVerify(t, root, []byte(key), row)
	v, is, e := Verify(root, []byte(key), row)
	if e != bad || is != there || written(v) != written(want) {
		t.Fatalf("Verify of %.20q, %d blocks: %s, %v, %d; want %s, %v, %d", key, len(row), written(v), is, e, written(want), there, bad)
	}
	return v, is, e
}

// refuses: Verify tells just that error.
func refuses(t *testing.T, what string, root api.Link, key string, row [][]byte, want api.Errno) {
	t.Helper()
	if v, is, e := verifies(t, root, key, row); e != want || is || written(v) != written(api.Value{}) {
		t.Errorf("%s: %s, %v, %d; want %d", what, written(v), is, e, want)
	}
}

// tells: Verify tells what a map has of a key.
func tells(t *testing.T, root api.Link, key string, row [][]byte, m table) {
	t.Helper()
	want, there := m[key]
	if v, is, e := verifies(t, root, key, row); e != api.OK || is != there || written(v) != written(want) {
		t.Errorf("Verify of %.20q: %s, %v, %d; want %s, %v", key, written(v), is, e, written(want), there)
	}
}
