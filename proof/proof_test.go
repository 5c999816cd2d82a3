package proof

import (
	"encoding/hex"
	"fmt"
	"maps"
	"slices"
	"strings"
	"testing"

	"trellis/api"
	"trellis/sample"
	"trellis/store"
)

// unhex: bytes out of a text.
func unhex(text string) string {
	b, err := hex.DecodeString(strings.ReplaceAll(text, " ", ""))
	if err != nil {
		panic(err)
	}
	return string(b)
}

// TestExamples: the chapter's.
func TestExamples(t *testing.T) {
	s, root := example(t)
	m := letters("a3b1c2")
	node := unhex("82 41 0c 82 81 82 41 63 02 81 82 41 62 01")
	top := unhex("86 64 74 72 69 65 02 01 01 41 09 82 d8 2a 58 25 00 01 71 12 20") + treeLink([]byte(node)).Digest + unhex("81 82 41 61 03")
	for key, want := range map[string]string{"a": top, "b": top + node, "c": top + node, "": top, keyAt(small, 1): top} {
		row, e := proves(t, s, root, key)
		if e != api.OK || strings.Join(texts(row), "") != want {
			t.Errorf("Prove of %q: %x, %d", key, row, e)
		}
		tells(t, root, key, row, m)
	}
	row := [][]byte{[]byte(top), []byte(node)}
	tells(t, root, "c", row, m)
	tells(t, root, "b", row, m)
	bent := rowOf(row...)
	bent[1][3] ^= 0x10
	for i, w := range []struct {
		row [][]byte
		e   api.Errno
	}{{row[:1], api.ErrProofShort}, {append(rowOf(row...), row[1]), api.ErrProofLeft}, {bent, api.ErrProofBad}, {nil, api.ErrProofShort}} {
		refuses(t, fmt.Sprint("the example's row ", i), root, "b", w.row, w.e)
	}
}

// texts: blocks as texts.
func texts(row [][]byte) []string {
	var l []string
	for _, b := range row {
		l = append(l, string(b))
	}
	return l
}

// TestMany: P17.1 to P17.3, of many maps: what is proved is taken, and tells what the map has; a row of another key is taken just if it goes the same way.
func TestMany(t *testing.T) {
	pool := keyPool()
	longs, crossed := 0, map[api.Errno]int{}
	for at, c := range manyWidths {
		for seed := range 8 {
			d := sample.Dice(1000*at + seed)
			s := made(t, 5000)
			m := anyMap(&d, c, pool, 40)
			root := laid(t, s, c, m)
			rows := map[string][][]byte{}
			for _, key := range pool {
				row, e := proves(t, s, root, key)
				if e != api.OK {
					t.Fatal(e)
				}
				tells(t, root, key, row, m)
				rows[key] = row
				longs = max(longs, len(row))
			}
			for range 60 {
				key, row := pool[d.Below(len(pool))], rows[pool[d.Below(len(pool))]]
				v, is, e := verifies(t, root, key, row)
				crossed[e]++
				if want, there := m[key]; e == api.OK && (is != there || written(v) != written(want) || !alike(row, rows[key])) {
					t.Fatalf("%v, seed %d: a row of another key: %.20q: %v", c, seed, key, is)
				}
			}
		}
	}
	if longs < 12 || crossed[api.OK] < 100 || crossed[api.ErrProofShort] < 100 || crossed[api.ErrProofLeft] < 100 || crossed[api.ErrProofBad] < 100 {
		t.Errorf("rows of %d blocks, other keys' rows %v: too few to tell", longs, crossed)
	}
}

// TestEveryWidth: P17.1 to P17.3, each Width, Bucket and Bytes that a trie may have.
func TestEveryWidth(t *testing.T) {
	pool := slices.DeleteFunc(keyPool(), func(key string) bool { return len(key) == api.MaxKey })
	var d sample.Dice
	for width := 1; width <= api.MaxWidth; width++ {
		for size := 1; size <= api.MaxBucket; size++ {
			for count := 1; count <= api.MaxBytes; count++ {
				c := api.Trie{Width: width, Bucket: size, Bytes: count}
				m, paths := table{}, map[string]int{}
				for i, key := range pool {
					path := fmt.Sprint(slicesOf(c, key))
					if i%3 > 0 && paths[path] < size {
						m[key] = sample.Whole(uint64(i))
						paths[path]++
					}
				}
				holdsFor(t, c, m, pool[d.Below(len(pool))], pool[d.Below(len(pool))], pool[d.Below(len(pool))], pool[d.Below(len(pool))])
			}
		}
	}
}

// holdsFor: what follows of some keys in the trie of a map.
func holdsFor(t *testing.T, c api.Trie, m table, keys ...string) {
	t.Helper()
	s := made(t, 2000)
	root := laid(t, s, c, m)
	for _, key := range keys {
		row, e := Prove(s, root, []byte(key))
		v, is, f := Verify(root, []byte(key), row)
		want, there := m[key]
		if e != api.OK || f != api.OK || is != there || written(v) != written(want) {
			t.Fatalf("%v: %.20q: Prove %d, Verify %v, %d", c, key, e, is, f)
		}
		last := len(row) - 1
		if _, _, e := Verify(root, []byte(key), row[:last]); e != api.ErrProofShort {
			t.Fatalf("%v: %.20q without its last block: %d", c, key, e)
		}
		if _, _, e := Verify(root, []byte(key), append(row, row[last])); e != api.ErrProofLeft {
			t.Fatalf("%v: %.20q with a block more: %d", c, key, e)
		}
	}
}

// TestKeys: P17.1 and P17.2, keys at their edges: the empty one, the longest, one longer; there and not there.
func TestKeys(t *testing.T) {
	long := longest()
	for _, c := range []api.Trie{small, {Width: 8, Bucket: 16, Bytes: 32}, {Width: 1, Bucket: 1, Bytes: 1}} {
		for _, m := range []table{{}, {"": sample.Null()}, {long: sample.Null()}, {"": sample.Whole(1), long: sample.Whole(2), "a": sample.Whole(3)}} {
			s := made(t, 100)
			root := laid(t, s, c, m)
			for _, key := range []string{"", long, long[1:], "a"} {
				row, e := proves(t, s, root, key)
				if e != api.OK {
					t.Errorf("%v: Prove of %d bytes: %d", c, len(key), e)
				}
				tells(t, root, key, row, m)
			}
			row, _ := Prove(s, root, nil)
			want, there := m[""]
			if v, is, e := Verify(root, nil, row); e != api.OK || is != there || written(v) != written(want) {
				t.Errorf("%v: nil as the empty key: %v, %d", c, is, e)
			}
			if row, e := proves(t, s, root, long+"x"); e != api.ErrTrieKey || row != nil {
				t.Errorf("%v: Prove of a key that is too long: %d", c, e)
			}
			refuses(t, "a key that is too long", root, long+"x", row, api.ErrTrieKey)
		}
	}
}

// TestEmpty: P17.1 and P17.2, the empty trie: one block tells of each key that there is none.
func TestEmpty(t *testing.T) {
	for _, c := range manyWidths {
		s := made(t, 1)
		root := laid(t, s, c, nil)
		for _, key := range keyPool() {
			row, e := proves(t, s, root, key)
			if e != api.OK || len(row) != 1 {
				t.Errorf("%v: %.20q: %d blocks, %d", c, key, len(row), e)
			}
			tells(t, root, key, row, nil)
			refuses(t, "no blocks", root, key, nil, api.ErrProofShort)
			refuses(t, "the root twice", root, key, [][]byte{row[0], row[0]}, api.ErrProofLeft)
		}
	}
}

// TestNotThere: P17.2, keys that are not there: for want of an element in the root, in a node below; in a bucket of the root, of a node below.
func TestNotThere(t *testing.T) {
	c := api.Trie{Width: 2, Bucket: 2, Bytes: 2}
	s := made(t, 100)
	m := table{}
	for _, key := range slices.Concat(keysAt(c, 1, 0, 1), keysAt(c, 2, 0, 2), keysAt(c, 1, 3)) {
		m[key] = sample.Text(key)
	}
	root := laid(t, s, c, m)
	for i, w := range []struct {
		path   []int
		skip   int
		blocks int
	}{{[]int{1}, 0, 1}, {[]int{2}, 0, 1}, {[]int{3}, 1, 1}, {[]int{0, 0}, 0, 2}, {[]int{0, 3}, 0, 2}, {[]int{0, 1}, 1, 2}, {[]int{0, 2}, 2, 2}} {
		key := keysAt(c, w.skip+1, w.path...)[w.skip]
		row, e := proves(t, s, root, key)
		if e != api.OK || len(row) != w.blocks {
			t.Errorf("%d: %d blocks, %d", i, len(row), e)
		}
		if v, is, e := verifies(t, root, key, row); e != api.OK || is || written(v) != written(api.Value{}) {
			t.Errorf("%d: %v, %d", i, is, e)
		}
	}
}

// TestOnePath: P17.2, keys of one path have one row, in which each has its own value, or none.
func TestOnePath(t *testing.T) {
	for _, c := range []api.Trie{{Width: 2, Bucket: 3, Bytes: 1}, {Width: 3, Bucket: 2, Bytes: 1}, {Width: 8, Bucket: 16, Bytes: 1}, {Width: 1, Bucket: 2, Bytes: 1}} {
		keys := keysAt(c, c.Bucket+3, slicesOf(c, "b")...)
		s := made(t, 100)
		m := table{}
		for i, key := range keys[:c.Bucket] {
			m[key] = sample.Whole(uint64(i))
		}
		// One of another path, but of the same slice at the top, so that there is a node below, if there is a level for it.
		if levels := 8 * c.Bytes / c.Width; levels > 1 {
			other := slicesOf(c, "b")
			other[levels-1] ^= 1
			m[keyAt(c, other...)] = sample.Null()
		}
		root := laid(t, s, c, m)
		want, e := proves(t, s, root, keys[0])
		if e != api.OK {
			t.Fatal(e)
		}
		for _, key := range keys {
			row, e := proves(t, s, root, key)
			if e != api.OK || !alike(row, want) {
				t.Errorf("%v: %q: %d blocks, %d", c, key, len(row), e)
			}
			tells(t, root, key, row, m)
		}
	}
}

// TestValues: P17.2, each kind of value, as read.Decode tells it.
func TestValues(t *testing.T) {
	s := made(t, 1000)
	all := append(sample.Leaves(), sample.List(), sample.Map(""), sample.Map("b a", sample.List(), sample.Null()), sample.Within(sample.Null(), 512, "lm"), octets(strings.Repeat("x", 4093)))
	for i, v := range all {
		for _, m := range []table{{"b": v}, {"b": v, "c": sample.Null()}} {
			root := laid(t, s, small, m)
			row, e := proves(t, s, root, "b")
			if e != api.OK {
				t.Fatal(e)
			}
			if told, is, e := verifies(t, root, "b", row); e != api.OK || !is || written(told) != written(sorted(v)) {
				t.Errorf("%d: %s, %v, %d", i, written(told), is, e)
			}
		}
	}
}

// TestWrongRows: P17.2 and P17.3, rows beside a right one.
func TestWrongRows(t *testing.T) {
	pool := keyPool()
	for at, c := range manyWidths {
		for seed := range 4 {
			d := sample.Dice(1000*at + seed)
			s := made(t, 5000)
			root := laid(t, s, c, anyMap(&d, c, pool, 40))
			for range 4 {
				key := pool[d.Below(len(pool))]
				row, e := proves(t, s, root, key)
				if e != api.OK {
					t.Fatal(e)
				}
				for _, w := range wrongRows(&d, row) {
					refuses(t, w.what, root, key, w.row, w.e)
				}
			}
		}
	}
}

// TestEveryBit: P17.2, whichever bit of whichever block is turned; of each shorter beginning, too.
func TestEveryBit(t *testing.T) {
	s, root := example(t)
	row, _ := Prove(s, root, []byte("b"))
	for i, b := range row {
		for bit := range 8 * len(b) {
			bent := rowOf(row...)
			bent[i][bit/8] ^= 1 << (bit % 8)
			refuses(t, fmt.Sprint("block ", i, " bit ", bit), root, "b", bent, api.ErrProofBad)
		}
		for n := range b {
			bent := rowOf(row...)
			bent[i] = bent[i][:n]
			refuses(t, fmt.Sprint("block ", i, " of ", n, " bytes"), root, "b", bent, api.ErrProofBad)
		}
	}
	// Neither is any bit of the root's digest left out.
	for bit := range 256 {
		sum := []byte(root.Digest)
		sum[bit/8] ^= 1 << (bit % 8)
		other := root
		other.Digest = string(sum)
		refuses(t, fmt.Sprint("the root's bit ", bit), other, "b", row, api.ErrProofBad)
	}
}

// TestOtherTries: P17.2 and P17.3, blocks of another trie: the root's, those below it, both.
func TestOtherTries(t *testing.T) {
	s := made(t, 100)
	one, two, three := laid(t, s, small, letters("a3b1c2")), laid(t, s, small, letters("a4b1c2")), laid(t, s, small, letters("a3b9c2"))
	wide := laid(t, s, api.Trie{Width: 2, Bucket: 2, Bytes: 1}, letters("a3b1c2"))
	row := func(root api.Link) [][]byte {
		l, e := proves(t, s, root, "b")
		if e != api.OK {
			t.Fatal(e)
		}
		return l
	}
	for i, other := range []api.Link{two, three, wide} {
		refuses(t, fmt.Sprint("all blocks of another one ", i), one, "b", row(other), api.ErrProofBad)
		refuses(t, fmt.Sprint("all blocks for another one ", i), other, "b", row(one), api.ErrProofBad)
	}
	tells(t, one, "b", [][]byte{row(one)[0], row(two)[1]}, letters("b1")) // the node is the same
	refuses(t, "another node", one, "b", [][]byte{row(one)[0], row(three)[1]}, api.ErrProofBad)
	refuses(t, "another root", one, "b", [][]byte{row(three)[0], row(one)[1]}, api.ErrProofBad)
}

// TestFirst: P17.1 and P17.2, which error counts, where several apply.
func TestFirst(t *testing.T) {
	s, root := example(t)
	right, _ := Prove(s, root, []byte("b"))
	long := longest() + "x"
	bad, none := []byte("bad"), api.Link{}
	node := treeLink(right[1])
	lost, wrong := broken(s, root, api.ErrStoreNone), broken(s, root, api.ErrStoreBad)
	for i, w := range []struct {
		on   *store.Store
		root api.Link
		key  string
		e    api.Errno
	}{
		{s, none, long, api.ErrTrieKey}, {s, node, long, api.ErrTrieKey}, {lost, root, long, api.ErrTrieKey}, {wrong, root, long, api.ErrTrieKey},
		{s, none, "b", api.ErrStoreLink}, {lost, root, "b", api.ErrStoreNone}, {wrong, root, "b", api.ErrStoreBad}, {s, node, "b", api.ErrTrieNode},
	} {
		if row, e := proves(t, w.on, w.root, w.key); e != w.e || row != nil {
			t.Errorf("Prove %d: %d; want %d", i, e, w.e)
		}
	}
	rootNow, bent := relinked(right, 1, []byte{0x80}) // what stands at the end is no node
	for i, w := range []struct {
		root api.Link
		key  string
		row  [][]byte
		e    api.Errno
	}{
		{none, long, nil, api.ErrTrieKey}, {none, long, right, api.ErrTrieKey}, {root, long, nil, api.ErrTrieKey}, {root, long, [][]byte{bad}, api.ErrTrieKey},
		{none, "b", nil, api.ErrStoreLink}, {none, "b", right, api.ErrStoreLink}, {none, "b", [][]byte{bad}, api.ErrStoreLink},
		{root, "b", [][]byte{bad, right[1]}, api.ErrProofBad}, {root, "b", [][]byte{bad}, api.ErrProofBad}, {root, "b", [][]byte{right[0], bad, bad}, api.ErrProofBad},
		{node, "b", nil, api.ErrProofShort}, {node, "b", right, api.ErrProofBad}, {node, "b", [][]byte{right[1]}, api.ErrTrieNode}, {node, "b", [][]byte{right[1], bad}, api.ErrTrieNode},
		{rootNow, "b", bent[:1], api.ErrProofShort}, {rootNow, "b", [][]byte{bent[0], bad}, api.ErrProofBad}, {rootNow, "b", bent, api.ErrTrieNode}, {rootNow, "b", append(rowOf(bent...), bad), api.ErrTrieNode},
		{rootNow, "a", bent[:1], api.OK}, {rootNow, "a", bent, api.ErrProofLeft}, {rootNow, "a", [][]byte{bent[0], bad}, api.ErrProofLeft},
	} {
		if w.e == api.OK {
			tells(t, w.root, w.key, w.row, letters("a3"))
			continue
		}
		refuses(t, fmt.Sprint("Verify ", i), w.root, w.key, w.row, w.e)
	}
}

// TestWrongLinks: P17.1 and P17.2, roots that may not be, and such as are no tree block's, though they hold a root's bytes.
func TestWrongLinks(t *testing.T) {
	s := made(t, 100)
	root := laid(t, s, small, letters("a3"))
	row, _ := Prove(s, root, []byte("a"))
	b := row[0]
	sum := root.Digest
	for i, l := range []api.Link{
		{}, {Version: 2, Codec: api.CodecTree, Hash: api.HashSha, Digest: sum}, {Version: -1, Codec: api.CodecTree, Hash: api.HashSha, Digest: sum},
		{Version: 1, Codec: 1 << 63, Hash: api.HashSha, Digest: sum}, {Version: 1, Codec: api.CodecTree, Hash: 0x13, Digest: sum},
		{Version: 1, Codec: api.CodecTree, Hash: api.HashSha, Digest: sum[:31]}, {Version: 1, Codec: api.CodecTree, Hash: api.HashSha, Digest: sum + "x"}, {Version: 1, Codec: api.CodecTree, Hash: api.HashSha},
		{Version: 1, Codec: api.CodecTree, Hash: api.HashNone, Digest: strings.Repeat("x", 65)}, {Codec: api.CodecTree, Hash: api.HashSha, Digest: sum}, {Codec: api.CodecOld, Hash: api.HashNone, Digest: string(b)},
	} {
		if row, e := proves(t, s, l, "a"); e != api.ErrStoreLink || row != nil {
			t.Errorf("Prove %d: %d", i, e)
		}
		for _, blocks := range [][][]byte{nil, row, {nil}, {b, b}} {
			refuses(t, fmt.Sprint("no link ", i), l, "a", blocks, api.ErrStoreLink)
		}
	}
	for i, l := range []api.Link{
		{Version: 1, Codec: api.CodecRaw, Hash: api.HashSha, Digest: sum}, {Version: 1, Codec: api.CodecOld, Hash: api.HashSha, Digest: sum}, {Version: 1, Codec: 0, Hash: api.HashSha, Digest: sum}, {Version: 1, Codec: 1<<63 - 1, Hash: api.HashSha, Digest: sum},
		{Codec: api.CodecOld, Hash: api.HashSha, Digest: sum}, {Version: 1, Codec: api.CodecTree, Hash: api.HashNone, Digest: string(b)}, {Version: 1, Codec: api.CodecRaw, Hash: api.HashNone, Digest: string(b)},
	} {
		refuses(t, fmt.Sprint("no tree block's, no block: ", i), l, "a", nil, api.ErrProofShort)
		refuses(t, fmt.Sprint("no tree block's, another block: ", i), l, "a", [][]byte{b[1:]}, api.ErrProofBad)
		refuses(t, fmt.Sprint("no tree block's, an empty block: ", i), l, "a", [][]byte{nil}, api.ErrProofBad)
		refuses(t, fmt.Sprint("no tree block's: ", i), l, "a", row, api.ErrTrieNode)
		refuses(t, fmt.Sprint("no tree block's, a block more: ", i), l, "a", [][]byte{b, b}, api.ErrTrieNode)
		on := s.Copy()
		if l.Hash == api.HashSha {
			if row, e := proves(t, on, l, "a"); e != api.ErrStoreNone || row != nil {
				t.Errorf("Prove %d: %d", i, e)
			}
			if _, e := on.Add(api.Block{Link: l, Bytes: b}); e != api.OK {
				t.Fatal(e)
			}
		}
		if row, e := proves(t, on, l, "a"); e != api.ErrTrieNode || row != nil {
			t.Errorf("Prove %d: %d", i, e)
		}
	}
	// No bytes are bytes, too: of a link that holds them.
	empty := api.Link{Version: 1, Codec: api.CodecTree, Hash: api.HashNone}
	refuses(t, "the link of no bytes", empty, "a", [][]byte{nil}, api.ErrTrieNode)
	refuses(t, "the link of no bytes, none", empty, "a", nil, api.ErrProofShort)
	refuses(t, "the link of no bytes, some", empty, "a", row, api.ErrProofBad)
	refuses(t, "the tree link of no bytes", treeLink(nil), "a", [][]byte{{}}, api.ErrTrieNode)
}

// spacious: a row whose lists have spare room, all of it filled.
func spacious(row [][]byte) [][]byte {
	all := make([][]byte, 0, len(row)+3)
	for _, b := range row {
		c := append(make([]byte, 0, len(b)+9), b...)
		copy(c[len(c):cap(c)], "spare room")
		all = append(all, c)
	}
	copy(all[len(all):cap(all)], [][]byte{[]byte("spare"), []byte("room"), nil})
	return all
}

// whole: a row with its spare room, as a text.
func whole(row [][]byte) string {
	text := ""
	for _, b := range row[:cap(row)] {
		text += fmt.Sprintf("%q ", b[:cap(b)])
	}
	return text
}

// TestHandedIn: P17.4 and R2, what is handed in is neither changed nor kept, its spare room too.
func TestHandedIn(t *testing.T) {
	pool := keyPool()
	for seed := range 60 {
		d := sample.Dice(seed)
		c := manyWidths[d.Below(len(manyWidths))]
		s := made(t, 5000)
		m := anyMap(&d, c, pool, 40)
		root := laid(t, s, c, m)
		name := pool[d.Below(len(pool))]
		key := append(make([]byte, 0, len(name)+5), name...)
		copy(key[len(key):cap(key)], "spare")
		was := string(key[:cap(key)])
		row, e := Prove(s, root, key)
		if e != api.OK || string(key[:cap(key)]) != was {
			t.Fatalf("seed %d: Prove: %d, the key has changed or not", seed, e)
		}
		row = spacious(row)
		if d.Below(3) == 0 {
			row = row[:len(row)-1]
		} else if d.Below(3) == 0 {
			row[d.Below(len(row))][0] ^= 1
		}
		before := whole(row)
		v, is, e := Verify(root, key, row)
		if whole(row) != before || string(key[:cap(key)]) != was {
			t.Fatalf("seed %d: Verify: %d: what was handed in has changed", seed, e)
		}
		told := written(v)
		for _, b := range row {
			clear(b[:cap(b)])
		}
		clear(row[:cap(row)])
		clear(key[:cap(key)])
		if written(v) != told {
			t.Fatalf("seed %d: what was told has the memory of what was handed in", seed)
		}
		if want, there := m[name]; e == api.OK && (is != there || told != written(want)) {
			t.Fatalf("seed %d: %v", seed, is)
		}
	}
}

// TestToldIsNew: P17.4 and R2, what is told is the caller's own, and no two lists of it share memory.
func TestToldIsNew(t *testing.T) {
	pool := keyPool()
	for seed := range 60 {
		d := sample.Dice(seed)
		c := manyWidths[d.Below(len(manyWidths))]
		s := made(t, 5000)
		m := anyMap(&d, c, pool, 40)
		root := laid(t, s, c, m)
		key := pool[d.Below(len(pool))]
		was := standing(s)
		one, _ := Prove(s, root, []byte(key))
		two, _ := Prove(s, root, []byte(key))
		row := rowOf(two...)
		v, is, _ := Verify(root, []byte(key), row)
		w, _, _ := Verify(root, []byte(key), row)
		kept := slices.Clone(one[:cap(one)])
		clear(one[:cap(one)])
		if !alike(two, row) {
			t.Fatalf("seed %d: two answers of Prove share a list", seed)
		}
		var all []api.Value
		for _, b := range slices.Concat(kept, two) {
			all = append(all, api.Value{Bytes: b})
		}
		if !sample.Apart(append(all, v, w)...) {
			t.Fatalf("seed %d: two answers share memory", seed)
		}
		if again, e := Prove(s, root, []byte(key)); e != api.OK || !alike(again, row) || !maps.Equal(standing(s), was) {
			t.Fatalf("seed %d: what was told was written over, and other things are told", seed)
		}
		if again, there, e := Verify(root, []byte(key), row); e != api.OK || there != is || written(again) != written(m[key]) {
			t.Fatalf("seed %d: what was told was written over, and Verify tells another thing", seed)
		}
	}
}
