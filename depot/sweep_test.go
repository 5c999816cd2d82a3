package depot

// P21.5, P21.6, P21.12: what is swept away, and what a Check finds.

import (
	"crypto/sha256"
	"fmt"
	"slices"
	"testing"

	"trellis/api"
	"trellis/column"
	"trellis/link"
	"trellis/sample"
	"trellis/store"
	"trellis/trie"
	"trellis/walk"
)

// swept: a Sweep that takes just so many blocks away.
func swept(t *testing.T, d *Depot, want int) {
	t.Helper()
	if n, e := sweeps(t, d); n != want || e != api.OK {
		t.Fatalf("Sweep: %d, %d; want %d", n, e, want)
	}
}

// checked: a Check with that answer.
func checked(t *testing.T, d *Depot, want int, bad api.Errno) {
	t.Helper()
	if n, e := checks(t, d); n != want || e != bad {
		t.Fatalf("Check: %d, %d; want %d, %d", n, e, want, bad)
	}
}

// rich: a depot with two heads, one of which has a column and a link to a tree, and a history.
func rich(t *testing.T) (*Depot, api.Link) {
	t.Helper()
	d := madeOf(t, 1000, narrow, 1)
	raw := lays(d.Store(), under(api.CodecRaw, []byte("raw")), []byte("raw"))
	tree := put(d.Store(), sample.Map("x", linked(raw)))
	changes(t, d, "main", sets("main", 6)...)
	changes(t, d, "main", row("main", "row", 1, 2, 3, 4, 5), setTo("main", "tree", linked(tree)))
	changes(t, d, "side", branch("side", "main"))
	changes(t, d, "side", set("side", "only", 1))
	return d, tree
}

// TestSweep: what no head comes to goes, of whichever kind, right or forced; what one comes to stays, histories and what values name.
func TestSweep(t *testing.T) {
	d, tree := rich(t)
	swept(t, d, 0)
	s := d.Store()
	lays(s, under(api.CodecRaw, []byte("beside")), []byte("beside"))
	lays(s, old([]byte("beside")), []byte("beside"))
	lays(s, under(api.CodecTree, []byte("no tree")), []byte("no tree"))
	put(s, naming(tree))
	put(s, commitMap(1, nil, "no head's", tree))
	force(s, lost("forced"))
	force(s, under(api.CodecRaw, []byte("forced")))
	was := asks(t, d, "main", "row") + asks(t, d, "side", "only")
	swept(t, d, 7)
	swept(t, d, 0)
	if asks(t, d, "main", "row")+asks(t, d, "side", "only") != was || !s.Has(tree) {
		t.Errorf("a Sweep has changed what is told")
	}
	n := s.Len()
	changes(t, d, "side", drop("side"))
	if k, e := sweeps(t, d); k < 2 || s.Len() != n-k || e != api.OK {
		t.Errorf("without the side: %d, %d", k, e)
	}
	changes(t, d, "main", drop("main"))
	swept(t, d, s.Len())
	if s.Len() != 0 {
		t.Errorf("%d blocks, and no head", s.Len())
	}
	swept(t, d, 0)
}

// TestSweepLost: what is lost is passed, and what it alone led to goes; what is forced or no tree refuses a Sweep, the least link's error counts.
func TestSweepLost(t *testing.T) {
	d, tree := rich(t)
	for _, l := range d.Store().Links() {
		x := twin(d)
		x.Store().Delete(l)
		n, e := sweeps(t, x)
		if e != api.OK || x.Store().Len() != d.Store().Len()-1-n {
			t.Errorf("%v is lost: %d, %d", l, n, e)
		}
		swept(t, x, 0)
		x = twin(d)
		force(x.Store(), l)
		if n, e := sweeps(t, x); n != 0 || e != api.ErrStoreBad {
			t.Errorf("%v is forced: %d, %d", l, n, e)
		}
	}
	d.Store().Delete(tree)
	swept(t, d, 1)
	for i := range 20 {
		first, second := lost(fmt.Sprint("first", i)), under(api.CodecTree, fmt.Append(nil, "no tree ", i))
		x := twin(d)
		changes(t, x, "main", setTo("main", "both", naming(first, second, lost("lost"))))
		swept(t, x, 0)
		force(x.Store(), first)
		if n, e := sweeps(t, x); n != 0 || e != api.ErrStoreBad {
			t.Errorf("%d, %d", n, e)
		}
		lays(x.Store(), second, fmt.Append(nil, "no tree ", i))
		want := api.ErrStoreBad
		if link.Less(second, first) {
			want = api.ErrWalkBlock
		}
		if n, e := sweeps(t, x); n != 0 || e != want {
			t.Errorf("%d, %d; want %d", n, e, want)
		}
		x.Store().Delete(first)
		if n, e := sweeps(t, x); n != 0 || e != api.ErrWalkBlock {
			t.Errorf("%d, %d", n, e)
		}
	}
}

// TestSweepCommits: heads whose commits are lost, forced: their own block is all that is missed.
func TestSweepCommits(t *testing.T) {
	d := made(t, 1000)
	changes(t, d, "a b", set("a", "x", 1), set("b", "x", 2))
	d.Store().Delete(headOf(t, d, "a"))
	swept(t, d, 1)
	force(d.Store(), headOf(t, d, "a"))
	if n, e := sweeps(t, d); n != 0 || e != api.ErrStoreBad {
		t.Errorf("%d, %d", n, e)
	}
	changes(t, d, "a", drop("a"))
	swept(t, d, 1)
}

// wall: a tree block that names so many links, none of which stands.
func wall(s *store.Store, n int) api.Link {
	v := sample.List()
	for i := range n {
		v.Items = append(v.Items, linked(lost(fmt.Sprint(i))))
	}
	return put(s, v)
}

// TestTooMany: more links than a walk may come to: Sweep and Export are refused; Do, Get, Check go on.
func TestTooMany(t *testing.T) {
	d := made(t, 1000)
	big := wall(d.Store(), api.MaxReach-4)
	beside := put(d.Store(), sample.Text("beside"))
	if names, e := d.Do("", setTo("main", "big", linked(big))); len(names) != 1 || e != api.OK {
		t.Fatal(e)
	}
	// The commit, its root, the wall and what it names: one less than the most.
	if n, e := d.Sweep(); n != 1 || e != api.OK || d.Store().Has(beside) {
		t.Errorf("%d, %d", n, e)
	}
	if names, e := d.Do("", set("main", "k", 1)); len(names) != 1 || e != api.OK {
		t.Fatal(e)
	}
	was := state(d)
	if n, e := d.Sweep(); n != 0 || e != api.ErrWalkFull {
		t.Errorf("%d, %d", n, e)
	}
	if b, e := d.Export("main"); b != nil || e != api.ErrWalkFull {
		t.Errorf("%d bytes, %d", len(b), e)
	}
	if n, e := made(t, 1000).Fetch(d, "main", "main", 8); n != 0 || e != api.ErrWalkFull {
		t.Errorf("%d, %d", n, e)
	}
	if n, e := d.Check(); n != 2 || e != api.OK || state(d) != was {
		t.Errorf("%d, %d", n, e)
	}
	is(t, d, "main", "k", 1, true)
	if names, e := d.Do("", set("main", "k", 2)); len(names) != 1 || e != api.OK {
		t.Errorf("%q, %d", names, e)
	}
}

// TestCheck: as many commits as there are, each once; none without heads; nothing is changed.
func TestCheck(t *testing.T) {
	d := made(t, 1000)
	checked(t, d, 0, api.OK)
	changes(t, d, "a b", set("a", "x", 1), set("b", "y", 2))
	checked(t, d, 2, api.OK)
	changes(t, d, "a", merge("a", "b"))
	changes(t, d, "b c", branch("c", "a"), set("b", "z", 1))
	checked(t, d, 4, api.OK)
	changes(t, d, "a b", drop("a"), drop("b"))
	checked(t, d, 3, api.OK)
	changes(t, d, "c", drop("c"))
	checked(t, d, 0, api.OK)
	d, _ = rich(t)
	checked(t, d, 3, api.OK)
}

// TestCheckNumbers: a commit whose number is not one above the greatest of those that it follows.
func TestCheckNumbers(t *testing.T) {
	for _, c := range []struct {
		at   uint64
		of   []uint64
		want api.Errno
	}{
		{1, nil, api.OK}, {2, nil, api.ErrDepotBlock}, {2, []uint64{1}, api.OK}, {1, []uint64{1}, api.ErrDepotBlock}, {3, []uint64{1}, api.ErrDepotBlock},
		{4, []uint64{1, 3, 2}, api.OK}, {3, []uint64{1, 3, 2}, api.ErrDepotBlock}, {2, []uint64{1, 3, 2}, api.ErrDepotBlock}, {5, []uint64{1, 3, 2}, api.ErrDepotBlock},
	} {
		d := made(t, 1000)
		s := d.Store().Copy()
		root := trieOf(t, s, wide, "a1")
		var from []api.Link
		commits := 1
		for _, at := range c.of {
			var ahead []api.Link
			for i := range at {
				ahead = []api.Link{put(s, commitMap(i+1, ahead, fmt.Sprint("of ", at), root))}
				commits++
			}
			from = append(from, ahead...)
		}
		brings(t, d, "main", s, put(s, commitMap(c.at, from, "", root)))
		if c.want != api.OK {
			commits = 0
		}
		checked(t, d, commits, c.want)
	}
}

// TestCheckOrder: the commits are all read ahead of all else; then commit by commit its number, its trie, its columns.
func TestCheckOrder(t *testing.T) {
	d := made(t, 1000)
	changes(t, d, "a b", set("a", "x", 1), set("b", "x", 2))
	roots := map[string]api.Link{"a": top(t, d, "a").Root, "b": top(t, d, "b").Root}
	x := twin(d)
	x.Store().Delete(roots["a"])
	force(x.Store(), roots["b"])
	checked(t, x, 0, api.ErrStoreNone)
	x = twin(d)
	x.Store().Delete(roots["b"])
	force(x.Store(), roots["a"])
	checked(t, x, 0, api.ErrStoreBad)
	x.Store().Delete(headOf(t, x, "b"))
	checked(t, x, 0, api.ErrStoreNone)
	forges(t, d, "c", 7, "y1")
	checked(t, d, 0, api.ErrDepotBlock)
	x = twin(d)
	force(x.Store(), roots["a"])
	checked(t, x, 0, api.ErrStoreBad)
	x = twin(d)
	x.Store().Delete(top(t, d, "c").Root)
	checked(t, x, 0, api.ErrDepotBlock)
	x.Store().Delete(headOf(t, x, "c"))
	checked(t, x, 0, api.ErrStoreNone)
}

// forgedColumn: the root of a column whose sums are not those of its samples, and that of a right one.
func forgedColumn(t *testing.T, s *store.Store) (bad, good api.Link) {
	t.Helper()
	empty, e := column.New(s, 1)
	if e != api.OK {
		t.Fatal(e)
	}
	if good, e = column.Append(s, empty, 1, 2, 3); e != api.OK {
		t.Fatal(e)
	}
	b, e := s.Get(good)
	if e != api.OK {
		t.Fatal(e)
	}
	// The sum's bits stand in the only row of eight bytes.
	at := slices.Index(b[40:], 0x48) + 40
	b[at+2] ^= 1
	return lays(s, under(api.CodecTree, b), b), good
}

// TestCheckColumns: columns that entries name are read whole; what is none, or cannot be opened, is passed.
func TestCheckColumns(t *testing.T) {
	d := made(t, 1000)
	bad, good := forgedColumn(t, d.Store())
	if n, e := column.Len(d.Store(), bad); n != 3 || e != api.OK {
		t.Fatalf("%d, %d", n, e)
	}
	changes(t, d, "main", setTo("main", "good", linked(good)), setTo("main", "lost", linked(lost("x"))), setTo("main", "list", naming(bad)))
	changes(t, d, "main", setTo("main", "trie", linked(top(t, d, "main").Root)), setTo("main", "raw", linked(under(api.CodecRaw, []byte("x")))))
	checked(t, d, 2, api.OK)
	x := twin(d)
	changes(t, x, "main", setTo("main", "bad", linked(bad)))
	checked(t, x, 0, api.ErrColumnForm)
	changes(t, x, "main", del("main", "bad"))
	checked(t, x, 0, api.ErrColumnForm)
	// A part of a right one is lost: its root can be opened still.
	for _, l := range d.Store().Links() {
		x := twin(d)
		x.Store().Delete(l)
		checks(t, x)
	}
	_, _, e := d.Get("main", []byte("good"))
	there, _, _ := walk.Reach(d.Store(), good)
	if e != api.OK || len(there) < 3 {
		t.Fatalf("%d: %v", e, there)
	}
	for _, l := range there {
		x := twin(d)
		x.Store().Delete(l)
		if l == good {
			checked(t, x, 2, api.OK)
		} else {
			checked(t, x, 0, api.ErrStoreNone)
		}
	}
	force(d.Store(), lost("x"))
	checked(t, d, 2, api.OK)
}

// TestCheckTries: a trie that Get takes, and Check does not, since it is no map's own.
func TestCheckTries(t *testing.T) {
	d := madeOf(t, 1000, narrow, 1)
	s := d.Store().Copy()
	root := trieOf(t, s, narrow, "a1b2c3")
	elements, e := trie.Node(s, api.Trie{}, nil, root)
	if e != api.OK {
		t.Fatal(e)
	}
	below := slices.IndexFunc(elements, func(x api.Element) bool { return len(x.Entries) == 0 })
	other := 1 - below
	if len(elements) != 2 || len(elements[other].Entries) != 1 {
		t.Fatalf("%+v", elements)
	}
	// The one key of a bucket stands in a node of its own, one level deeper.
	x := elements[other].Entries[0]
	bits := []byte{1 << nextBit(x.Key)}
	entry := sample.List(sample.List(api.Value{Kind: api.KindBytes, Bytes: x.Key}, x.Value))
	node := put(s, sample.List(api.Value{Kind: api.KindBytes, Bytes: bits}, sample.List(entry)))
	items := []api.Value{linked(node), linked(node)}
	items[below] = linked(elements[below].Below)
	forged := put(s, sample.List(sample.Text("trie"), sample.Whole(1), sample.Whole(1), sample.Whole(4), api.Value{Kind: api.KindBytes, Bytes: []byte{3}}, sample.List(items...)))
	brings(t, d, "main", s, put(s, commitMap(1, nil, "", forged)))
	is(t, d, "main", string(x.Key), x.Value.N, true)
	checked(t, d, 0, api.ErrTrieForm)
	// Another root that is right, ahead of it and behind it.
	changes(t, d, "a z", set("a", "k", 1), set("z", "k", 1))
	checked(t, d, 0, api.ErrTrieForm)
	changes(t, d, "main", drop("main"))
	checked(t, d, 1, api.OK)
}

// nextBit: the second bit of a key's digest.
func nextBit(key []byte) int {
	sum := sha256.Sum256(key)
	return int(sum[0] >> 6 & 1)
}
