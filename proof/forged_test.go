package proof

// What stands in stores, and in rows, that is not as it should be; what follows of a row that is taken.

import (
	"fmt"
	"slices"
	"strconv"
	"strings"
	"testing"

	"trellis/api"
	"trellis/sample"
	"trellis/store"
	"trellis/trie"
)

// TestReads: P17.1, just the blocks on the key's path are read: of one that is lost or wrong the error is told, of all others nothing.
func TestReads(t *testing.T) {
	pool := keyPool()
	on, off := 0, 0
	for at, c := range manyWidths {
		d := sample.Dice(at)
		s := made(t, 5000)
		root := laid(t, s, c, anyMap(&d, c, pool, 60))
		for range 4 {
			key := pool[d.Below(len(pool))]
			row, e := proves(t, s, root, key)
			if e != api.OK {
				t.Fatal(e)
			}
			read := map[api.Link]bool{}
			for _, b := range row {
				read[treeLink(b)] = true
			}
			for _, l := range s.Links() {
				for _, bad := range []api.Errno{api.ErrStoreNone, api.ErrStoreBad} {
					told, e := proves(t, broken(s, l, bad), root, key)
					if read[l] {
						on++
						if e != bad || told != nil {
							t.Fatalf("%v: a block that is read: %d; want %d", c, e, bad)
						}
					} else {
						off++
						if e != api.OK || !alike(told, row) {
							t.Fatalf("%v: a block that is not read: %d", c, e)
						}
					}
				}
			}
		}
	}
	if on < 100 || off < 100 {
		t.Errorf("%d blocks that are read, %d that are not: too few to tell", on, off)
	}
}

// TestTurns: P17.1 and P17.2, blocks are read from the root on: of any two that are broken the first one's error is told.
func TestTurns(t *testing.T) {
	c := api.Trie{Width: 1, Bucket: 1, Bytes: 2}
	s := made(t, 100)
	keys := keysAt(c, 2, 0, 1, 1, 0, 1, 0)
	root := laid(t, s, c, table{keys[0]: sample.Null(), keys[1]: sample.Null()})
	row, e := proves(t, s, root, keys[0])
	if e != api.OK || len(row) < 6 {
		t.Fatal(len(row), e)
	}
	errors := []api.Errno{api.ErrStoreNone, api.ErrStoreBad}
	for i := range row {
		for j := range i {
			for k := range 2 {
				on := broken(broken(s, treeLink(row[j]), errors[k]), treeLink(row[i]), errors[1-k])
				if told, e := proves(t, on, root, keys[0]); e != errors[k] || told != nil {
					t.Errorf("%d, %d: %d; want %d", j, i, e, errors[k])
				}
			}
			// The block at i is no node, and the one at j is: of a row that breaks off, or goes wrong, ahead of it that is told.
			top, bent := relinked(row, i, []byte{0x80})
			refuses(t, "broken off", top, keys[0], bent[:j], api.ErrProofShort)
			wrong := rowOf(bent...)
			wrong[j] = []byte{0x80}
			refuses(t, "wrong", top, keys[0], wrong, api.ErrProofBad)
			// The blocks at both are none: the first one is told, whatever is behind it.
			top, bent = relinked(bent, j, []byte{0x81, 0x00})
			refuses(t, "two", top, keys[0], bent[:j+1], api.ErrTrieNode)
			refuses(t, "two", top, keys[0], bent, api.ErrTrieNode)
		}
	}
}

// wrongNode: Prove and Verify of a row whose last block is no right node there.
func wrongNode(t *testing.T, what, key string, root api.Link, row [][]byte) {
	t.Helper()
	s := made(t, 1000)
	for _, b := range row {
		if _, e := s.Put(api.CodecTree, b); e != api.OK {
			t.Fatal(e)
		}
	}
	if told, e := proves(t, s, root, key); e != api.ErrTrieNode || told != nil {
		t.Errorf("%s: Prove: %d", what, e)
	}
	refuses(t, what, root, key, row, api.ErrTrieNode)
	refuses(t, what+", a block more", root, key, append(rowOf(row...), []byte{0x80}), api.ErrTrieNode)
	refuses(t, what+", a block fewer", root, key, row[:len(row)-1], api.ErrProofShort)
}

// TestWrongNodes: P17.2, blocks that their links hold and that are no right nodes at their place.
func TestWrongNodes(t *testing.T) {
	c := api.Trie{Width: 2, Bucket: 2, Bytes: 1}
	keys := keysAt(c, 3, 0, 2) // behind slice 0 there is a node, in which they have the slice 2
	null := sample.Null()
	good := linkOf(treeLink([]byte("some block")))
	raw, old, inline := good, good, good
	raw.Link.Codec = api.CodecRaw
	old.Link.Version, old.Link.Codec = 0, api.CodecOld
	inline.Link.Hash, inline.Link.Digest = api.HashNone, "\x80"
	entry := func(key string, v api.Value) api.Value { return sample.List(octets(key), v) }
	slices.Sort(keys)
	first, second := entry(keys[0], null), entry(keys[1], null)
	fit, long := octets(strings.Repeat("x", 4093)), octets(strings.Repeat("x", 4094))
	longKey := "" // of MaxKey + 1 bytes, and of the right slices
	for i := 0; longKey == "" || !slices.Equal(slicesOf(c, longKey)[:2], []int{0, 2}); i++ {
		longKey = strings.Repeat("y", api.MaxKey-7) + fmt.Sprintf("%08d", i)
	}
	// At slice 2 of the node behind slice 0: each is wrong, whichever of the other slices has which of these.
	wrong := map[string]api.Value{
		"a link of another codec": raw, "a link of version 0": old, "a link of the bytes themselves": inline, "null": null, "a text": sample.Text("a"), "a map": sample.Map("a", null),
		"an empty bucket": sample.List(), "a bucket of more than Bucket": sample.List(first, second, entry(keys[2], null)), "a bucket that falls": sample.List(second, first), "a key twice": sample.List(first, first),
		"an entry of one": sample.List(sample.List(octets(keys[0]))), "an entry of three": sample.List(sample.List(octets(keys[0]), null, null)), "a key as a text": sample.List(sample.List(sample.Text(keys[0]), null)),
		"a key of another slice": sample.List(entry(keyAt(c, 0, 1), null)), "a key of another slice above": sample.List(entry(keyAt(c, 1, 2), null)), "a key that is too long": sample.List(entry(longKey, null)),
		"a value that is too long": sample.List(entry(keys[0], long)), "a value that is too deep": sample.List(entry(keys[0], sample.Within(null, 513, "lm"))),
	}
	node := func(elements map[int]api.Value) (api.Link, [][]byte) {
		b := formOf(sample.List(two(c, elements)...))
		top := formOf(six(c, two(c, map[int]api.Value{0: linkOf(treeLink(b)), 3: sample.List(entry(keyAt(c, 3), null))})))
		return treeLink(top), [][]byte{top, b}
	}
	for what, x := range wrong {
		root, row := node(map[int]api.Value{2: x})
		for _, key := range []string{keys[0], keyAt(c, 0, 0), keyAt(c, 0, 1)} { // on the way to it, and beside it
			wrongNode(t, what, key, root, row)
		}
		root, row = node(map[int]api.Value{2: x, 1: sample.List(entry(keyAt(c, 0, 1), null))})
		wrongNode(t, what, keyAt(c, 0, 1), root, row)
		tells(t, root, keyAt(c, 3), row[:1], table{keyAt(c, 3): null}) // what is not read is not looked at
	}
	right := map[string]api.Value{"a bucket": sample.List(first), "a full bucket": sample.List(first, second), "the longest value": sample.List(entry(keys[0], fit)), "the deepest value": sample.List(entry(keys[0], sample.Within(null, 512, "lm")))}
	for what, x := range right {
		root, row := node(map[int]api.Value{2: x})
		if v, is, e := verifies(t, root, keys[0], row); e != api.OK || !is || written(v) != written(sorted(x.Items[0].Items[1])) {
			t.Errorf("%s: %v, %d", what, is, e)
		}
	}
	root, row := node(map[int]api.Value{2: good})
	refuses(t, "a link", root, keys[0], row, api.ErrProofShort)
	root, row = node(nil)
	wrongNode(t, "a node without elements", keys[0], root, row)
}

// TestWrongForms: P17.2, blocks that are no node's form, as a root and below it.
func TestWrongForms(t *testing.T) {
	c := api.Trie{Width: 2, Bucket: 1, Bytes: 1}
	m := letters("b1c2")
	s := made(t, 10)
	root := laid(t, s, c, m)
	row, _ := Prove(s, root, []byte("b"))
	top, node := string(row[0]), string(row[1])
	bits, list := octets("\x0c"), two(c, map[int]api.Value{2: bucket(letters("c2")), 3: bucket(letters("b1"))})[1]
	if node != string(formOf(sample.List(bits, list))) {
		t.Fatalf("% x", node)
	}
	for i, b := range []string{
		"", "\xff", "\x80", "\xf6", "\x00", node + "\x00", node[:len(node)-1], "\x98\x02" + node[1:], top,
		string(formOf(sample.List(bits))), string(formOf(sample.List(bits, list, sample.Null()))), string(formOf(sample.List(list, bits))), string(formOf(sample.Map("a b", bits, list))),
		string(formOf(sample.List(octets(""), list))), string(formOf(sample.List(octets("\x0c\x00"), list))), string(formOf(sample.List(octets("\x1c"), list))), string(formOf(sample.List(octets("\x0d"), list))), string(formOf(sample.List(octets("\x04"), list))), string(formOf(sample.List(octets("\x03"), list))),
		string(formOf(sample.List(sample.Text("\x0c"), list))), string(formOf(sample.List(bits, sample.Null()))), string(formOf(sample.List(bits, octets("")))), string(formOf(sample.List(octets("\x00"), sample.List()))),
	} {
		now, bent := relinked(row, 1, []byte(b))
		wrongNode(t, fmt.Sprint("below the root ", i), "b", now, bent)
		wrongNode(t, fmt.Sprint("below the root ", i), "c", now, bent)
	}
	elements := two(c, map[int]api.Value{0: linkOf(treeLink(row[1]))})
	roots := []string{"", "\xff", "\x80", top + "\x00", top[:len(top)-1], "\x98\x06" + top[1:], node, string(formOf(sample.List(elements...))), string(formOf(sample.Map("trie", six(c, elements)))), string(formOf(linkOf(root)))}
	for _, w := range []api.Trie{{Width: 0, Bucket: 1, Bytes: 1}, {Width: 9, Bucket: 1, Bytes: 1}, {Width: 2, Bucket: 0, Bytes: 1}, {Width: 2, Bucket: 17, Bytes: 1}, {Width: 2, Bucket: 1, Bytes: 0}, {Width: 2, Bucket: 1, Bytes: 33}, {Width: 4, Bucket: 1, Bytes: 1}, {Width: 1 << 32, Bucket: 1, Bytes: 1}} {
		roots = append(roots, string(formOf(six(w, elements))))
	}
	for at, others := range [][]api.Value{{sample.Text("tries"), sample.Text(""), octets("trie")}, {{Kind: api.KindInt, Neg: true, N: 1}, sample.Text("2")}, {sample.Float(0x3ff0000000000000)}, {sample.Null()}, {octets("\x10"), octets("\x00")}, {sample.List(), sample.Null()}} {
		for _, v := range others {
			bad := six(c, elements)
			bad.Items[at] = v
			roots = append(roots, string(formOf(bad)))
		}
	}
	for n := range 6 {
		roots = append(roots, string(formOf(sample.List(six(c, elements).Items[:n]...))))
	}
	for i, b := range roots {
		for _, key := range []string{"b", "a", ""} {
			wrongNode(t, fmt.Sprint("a root ", i), key, treeLink([]byte(b)), [][]byte{[]byte(b)})
		}
	}
}

// TestOwnPlace: P17.2, a node that is right elsewhere is not right here: at another slice, at another level, of other widths.
func TestOwnPlace(t *testing.T) {
	c := api.Trie{Width: 2, Bucket: 1, Bytes: 2}
	key, beside := keyAt(c, 0, 0), keyAt(c, 0, 1)
	null := sample.Null()
	node := formOf(sample.List(two(c, map[int]api.Value{0: bucket(table{key: null}), 1: bucket(table{beside: null})})...))
	rootOf := func(c api.Trie, elements map[int]api.Value) []byte { return formOf(six(c, two(c, elements))) }
	below := linkOf(treeLink(node))
	top := rootOf(c, map[int]api.Value{0: below, 1: below})
	tells(t, treeLink(top), key, [][]byte{top, node}, table{key: null})
	tells(t, treeLink(top), keyAt(c, 0, 2), [][]byte{top, node}, nil)
	for _, path := range [][]int{{1, 0}, {1, 1}, {1, 3}} {
		wrongNode(t, "at another slice", keyAt(c, path...), treeLink(top), [][]byte{top, node})
	}
	tells(t, treeLink(top), keyAt(c, 2), [][]byte{top}, nil)
	middle := formOf(sample.List(two(c, map[int]api.Value{0: below})...))
	top = rootOf(c, map[int]api.Value{0: linkOf(treeLink(middle))})
	wrongNode(t, "a level deeper", keyAt(c, 0, 0, 1), treeLink(top), [][]byte{top, middle, node})
	wide := api.Trie{Width: 1, Bucket: 1, Bytes: 2}
	top = rootOf(wide, map[int]api.Value{0: below})
	wrongNode(t, "of another Width", keyAt(wide, 0), treeLink(top), [][]byte{top, node})
	full := formOf(sample.List(two(c, map[int]api.Value{0: bucket(table{key: null, keysAt(c, 2, 0, 0)[1]: null})})...))
	for size, want := range map[int]api.Errno{1: api.ErrTrieNode, 2: api.OK} {
		top = rootOf(api.Trie{Width: 2, Bucket: size, Bytes: 2}, map[int]api.Value{0: linkOf(treeLink(full))})
		if want == api.OK {
			tells(t, treeLink(top), key, [][]byte{top, full}, table{key: null})
			continue
		}
		wrongNode(t, "of another Bucket", key, treeLink(top), [][]byte{top, full})
	}
}

// TestLastLevel: P17.2, at the last level there are no links, one level above there are.
func TestLastLevel(t *testing.T) {
	for _, c := range []api.Trie{{Width: 8, Bucket: 1, Bytes: 1}, {Width: 5, Bucket: 1, Bytes: 1}, {Width: 4, Bucket: 1, Bytes: 1}, {Width: 3, Bucket: 2, Bytes: 1}, {Width: 2, Bucket: 1, Bytes: 2}, {Width: 7, Bucket: 1, Bytes: 4}} {
		path := slicesOf(c, "x")
		// From the last level, in which the link is wrong, to the root.
		b := sample.List(two(c, map[int]api.Value{path[len(path)-1]: linkOf(treeLink([]byte("some block")))})...)
		var row [][]byte
		for level := len(path) - 1; level > 0; level-- {
			row = slices.Insert(row, 0, formOf(b))
			b = sample.List(two(c, map[int]api.Value{path[level-1]: linkOf(treeLink(row[0]))})...)
		}
		row = slices.Insert(row, 0, formOf(six(c, b.Items)))
		if len(row) != 8*c.Bytes/c.Width {
			t.Fatal(len(row))
		}
		wrongNode(t, fmt.Sprint(c), "x", treeLink(row[0]), row)
		// With the key's own bucket there instead it is right.
		good := table{"x": sample.Whole(7)}
		s := made(t, 100)
		root := forger{store: s, widths: c, loose: func([]int) bool { return true }, bent: asIs}.root(good)
		told, e := proves(t, s, root, "x")
		if e != api.OK || len(told) != len(row) {
			t.Errorf("%v: %d blocks, %d", c, len(told), e)
		}
		tells(t, root, "x", told, good)
	}
}

// TestDeepest: P17.1 to P17.3, a path of as many nodes as there are levels at most.
func TestDeepest(t *testing.T) {
	c := api.Trie{Width: 1, Bucket: 1, Bytes: 32}
	s := made(t, 1000)
	m := table{"a": sample.Whole(1), "b": sample.Text("b")}
	root := forger{store: s, widths: c, loose: func([]int) bool { return true }, bent: asIs}.root(m)
	for key := range m {
		row, e := proves(t, s, root, key)
		if e != api.OK || len(row) != 256 {
			t.Fatalf("%d blocks, %d", len(row), e)
		}
		tells(t, root, key, row, m)
		refuses(t, "all but one", root, key, row[:255], api.ErrProofShort)
		refuses(t, "one more", root, key, append(rowOf(row...), row[255]), api.ErrProofLeft)
		for _, i := range []int{0, 1, 100, 254, 255} {
			bent := rowOf(row...)
			bent[i][len(bent[i])-1] ^= 1
			refuses(t, fmt.Sprint("a bit turned at ", i), root, key, bent, api.ErrProofBad)
		}
	}
}

// TestLadder: P17.1 and R3, a trie of few blocks and more places than can be gone through: the key's path alone is gone.
func TestLadder(t *testing.T) {
	c := api.Trie{Width: 1, Bucket: 1, Bytes: 32}
	s := made(t, 1000)
	end := treeLink([]byte("lost"))
	for range 200 {
		end = put(s, sample.List(two(c, map[int]api.Value{0: linkOf(end), 1: linkOf(end)})...))
	}
	root := put(s, six(c, two(c, map[int]api.Value{1: linkOf(end)})))
	for _, key := range []string{keyAt(c, 1), keyAt(c, 1, 0), keyAt(c, 1, 1)} {
		if row, e := proves(t, s, root, key); e != api.ErrStoreNone || row != nil {
			t.Errorf("%d", e)
		}
	}
	row, e := proves(t, s, root, keyAt(c, 0))
	if e != api.OK || len(row) != 1 {
		t.Errorf("%d blocks, %d", len(row), e)
	}
}

// TestForged: P17.1, P17.2 and P17.4, whatever stands in the store, and whatever is made of a row whose links hold its blocks.
func TestForged(t *testing.T) {
	pool := keyPool()
	told := map[string]int{}
	for at, c := range manyWidths {
		for seed := range 40 {
			d := sample.Dice(1000*at + seed)
			s := made(t, 5000)
			f := anyForger(&d, s, c)
			whole := f.root(anyMap(&d, c, pool, 40))
			s = damaged(&d, s)
			for range 6 {
				key := pool[d.Below(len(pool))]
				row, e := proves(t, s, whole, key)
				told[fmt.Sprint("Prove ", e)]++
				if e != api.OK {
					continue
				}
				_, _, e = verifies(t, whole, key, row)
				told[fmt.Sprint("Verify ", e)]++
				for range 4 {
					i := d.Below(len(row))
					root, bent := relinked(row, i, bentBytes(&d, row[i]))
					if d.Below(4) == 0 {
						bent = append(bent, row[i])
					} else if d.Below(4) == 0 {
						bent = slices.Delete(bent, i, i+1)
					} else if d.Below(4) == 0 {
						bent[i] = row[i]
					}
					_, _, e := verifies(t, root, key, bent)
					told[fmt.Sprint("Verify ", e)]++
				}
			}
		}
	}
	for _, x := range []string{"Prove 0", "Prove 136", "Prove 137", "Prove 143", "Verify 0", "Verify 143", "Verify 170", "Verify 171", "Verify 172"} {
		if told[x] < 20 {
			t.Errorf("%s came %d times alone", x, told[x])
		}
	}
}

// TestTaken: P17.3 and W9, of rows by chance, of one root's blocks, forged ones and others: one that is taken tells what Get tells over a store that has just its blocks, and over one that has all; no other row is taken.
func TestTaken(t *testing.T) {
	pool := keyPool()
	taken := 0
	for at, c := range manyWidths {
		for seed := range 10 {
			d := sample.Dice(1000*at + seed)
			s := made(t, 5000)
			f := anyForger(&d, s, c)
			roots := []api.Link{f.root(anyMap(&d, c, pool, 20)), laid(t, s, c, anyMap(&d, c, pool, 20))}
			var blocks [][]byte
			for _, l := range s.Links() {
				b, _ := s.Get(l)
				blocks = append(blocks, b)
			}
			root := roots[d.Below(2)]
			for range 10 {
				key := pool[d.Below(len(pool))]
				right, e := Prove(s, root, []byte(key))
				if e != api.OK {
					right = nil
				}
				for range 20 {
					row := rowOf(right...)
					for range d.Below(3) {
						b := blocks[d.Below(len(blocks))]
						switch i := d.Below(len(row) + 1); {
						case d.Below(2) == 0:
							row = slices.Insert(row, i, b)
						case i < len(row):
							row[i] = b
						case len(row) > 0:
							row = row[:len(row)-1]
						}
					}
					v, is, e := Verify(root, []byte(key), row)
					if e != api.OK {
						if alike(row, right) && len(right) > 0 {
							t.Fatalf("%v, seed %d: what is proved is not taken: %d", c, seed, e)
						}
						continue
					}
					taken++
					if !alike(row, right) {
						t.Fatalf("%v, seed %d: another row is taken", c, seed)
					}
					alone := made(t, 1000)
					for _, b := range row {
						alone.Put(api.CodecTree, b)
					}
					for _, on := range []*store.Store{s, alone} {
						w, there, e := trie.Get(on, root, []byte(key))
						if e != api.OK || there != is || written(w) != written(v) {
							t.Fatalf("%v, seed %d: Get tells %v, %d", c, seed, there, e)
						}
					}
				}
			}
		}
	}
	if taken < 1000 {
		t.Errorf("%d rows alone were taken", taken)
	}
}

// TestBytes: P17.4 and R3, blocks of any bytes, under roots that hold the first one.
func TestBytes(t *testing.T) {
	for seed := range 2000 {
		d := sample.Dice(seed)
		var row [][]byte
		for range 1 + d.Below(3) {
			b := make([]byte, d.Below(40))
			for i := range b {
				b[i] = byte(d.Next())
			}
			if d.Below(2) == 0 {
				b = append([]byte(unhex("86 64 74 72 69 65 02 01 01 41")), b...)
			}
			row = append(row, b)
		}
		verifies(t, treeLink(row[0]), strconv.Itoa(seed), row)
	}
	// Lists in one another, and arguments that tell more than there is.
	for i, b := range []string{strings.Repeat("\x81", 1<<20), strings.Repeat("\x9b\xff\xff\xff\xff\xff\xff\xff\xff", 100), "\x5b\x7f\xff\xff\xff\xff\xff\xff\xff", "\xbb\xff\xff\xff\xff\xff\xff\xff\xff"} {
		wrongNode(t, fmt.Sprint("bytes ", i), "a", treeLink([]byte(b)), [][]byte{[]byte(b)})
	}
}

// TestLong: P17.2, blocks of more bytes than a store takes, whose links hold them: they are no nodes, of the root and below it.
func TestLong(t *testing.T) {
	s, root := example(t)
	row, _ := Prove(s, root, []byte("b"))
	long := make([]byte, api.MaxBlock+1)
	copy(long, row[1])
	top, bent := relinked(row, 1, long)
	other := rowOf(bent...)
	other[1][api.MaxBlock] = 1
	for i, w := range []struct {
		root api.Link
		row  [][]byte
		e    api.Errno
	}{
		{treeLink(long), [][]byte{long}, api.ErrTrieNode}, {treeLink(long), [][]byte{long, nil}, api.ErrTrieNode}, {treeLink(long[1:]), [][]byte{long[1:]}, api.ErrTrieNode}, {treeLink(long[1:]), [][]byte{long}, api.ErrProofBad},
		{top, bent, api.ErrTrieNode}, {top, other, api.ErrProofBad},
	} {
		if v, is, e := Verify(w.root, []byte("b"), w.row); e != w.e || is || written(v) != written(api.Value{}) {
			t.Errorf("%d: %v, %d; want %d", i, is, e, w.e)
		}
	}
}

// TestGreatest: P17.1 to P17.3, the greatest node that there is.
func TestGreatest(t *testing.T) {
	c := api.Trie{Width: 8, Bucket: 16, Bytes: 32}
	v := octets(strings.Repeat("v", 4093))
	count, elements := [256]int{}, map[int]api.Value{}
	buckets := map[int]table{}
	last := ""
	for i, n := 0, 0; n < 256*16; i++ {
		key := strconv.Itoa(i)
		key = strings.Repeat("k", api.MaxKey-len(key)) + key
		at := slicesOf(c, key)[0]
		if count[at] == 16 {
			continue
		}
		if count[at]++; buckets[at] == nil {
			buckets[at] = table{}
		}
		buckets[at][key] = v
		last = key
		n++
	}
	for i, m := range buckets {
		elements[i] = bucket(m)
	}
	s := made(t, 1)
	root := put(s, six(c, two(c, elements)))
	if s.Size() != 256*(16*8196+1)+47 {
		t.Errorf("%d bytes", s.Size())
	}
	for key, there := range map[string]bool{last: true, last[1:]: false} {
		row, e := Prove(s, root, []byte(key))
		if e != api.OK || len(row) != 1 {
			t.Fatalf("%d blocks, %d", len(row), e)
		}
		if w, is, e := Verify(root, []byte(key), row); e != api.OK || is != there || is && written(w) != written(v) {
			t.Errorf("%v, %d", is, e)
		}
	}
}
