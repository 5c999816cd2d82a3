package depot

// Which blocks are commits, and what is done with those that were forged.

import (
	"fmt"
	"reflect"
	"slices"
	"strings"
	"testing"

	"trellis/api"
	"trellis/archive"
	"trellis/sample"
	"trellis/store"
)

// someLinks: so many links of trees.
func someLinks(n int) []api.Link {
	var links []api.Link
	for i := range n {
		links = append(links, lost(fmt.Sprint(i)))
	}
	return links
}

// goodCommits: commits at the edges of what they may be.
func goodCommits() []api.Commit {
	root := lost("root")
	return []api.Commit{
		{At: 1, Root: root}, {At: api.MaxCommit, Root: root}, {At: 7, Root: root, Note: strings.Repeat("n", api.MaxNote)},
		{At: 7, Root: root, Note: "\x00\u00e4\U0010ffff"}, {At: 7, Root: root, From: someLinks(1)}, {At: 7, Root: root, From: someLinks(api.MaxOps + 1)},
		{At: 7, Root: root, From: []api.Link{root}}, {At: 1, Root: root, From: someLinks(3)},
	}
}

// treeOfCommit: the tree of a commit.
func treeOfCommit(c api.Commit) api.Value { return commitMap(c.At, c.From, c.Note, c.Root) }

// badCommits: trees that are nearly commits.
func badCommits() map[string]api.Value {
	root, some := lost("root"), someLinks(3)
	right := commitMap(7, some, "note", root)
	raw, older := under(api.CodecRaw, []byte("x")), old([]byte("x"))
	other := root
	other.Codec = api.CodecOld
	holds := itself(api.CodecTree, []byte("\xf6"))
	all := map[string]api.Value{
		"at 0": commitMap(0, some, "note", root), "at above": commitMap(api.MaxCommit+1, some, "note", root), "at far above": commitMap(1<<64-1, some, "note", root),
		"a parent too many": commitMap(7, someLinks(api.MaxOps+2), "note", root), "a parent twice": commitMap(7, []api.Link{some[0], some[1], some[0]}, "note", root),
		"a long note": commitMap(7, some, strings.Repeat("n", api.MaxNote+1), root), "a long note of few letters": commitMap(7, some, "a"+strings.Repeat("\u00e4", api.MaxNote/2), root),
		"no map": sample.List(right.Items...), "a link alone": linked(root), "null": sample.Null(), "the empty map": sample.Map(""),
		"a key more":        sample.Map("at from note root x", append(slices.Clone(right.Items), sample.Null())...),
		"an empty key more": {Kind: api.KindMap, Keys: []string{"", "at", "from", "note", "root"}, Items: append([]api.Value{sample.Null()}, right.Items...)},
		"other names":       sample.Map("At from note root", right.Items...), "changed names": sample.Map("at note from root", right.Items...),
		"it is in a list": sample.List(right), "it is in a map": sample.Map("x", right),
	}
	neg := sample.Whole(7)
	neg.Neg = true
	wrong := map[string][]api.Value{
		"at":   {neg, sample.Null(), sample.Text("7"), sample.Float(0x401c000000000000), linked(root), sample.List(sample.Whole(7)), {Kind: api.KindBytes}},
		"from": {sample.Null(), sample.Map(""), sample.Map("x", linked(some[0])), linked(some[0]), sample.List(linked(some[0]), sample.Null()), naming(raw), naming(older), naming(some[0], other), naming(holds), sample.List(naming(some[0])), sample.Whole(0)},
		"note": {sample.Null(), {Kind: api.KindBytes, Bytes: []byte("note")}, sample.Whole(0), sample.List(sample.Text("note"))},
		"root": {sample.Null(), linked(raw), linked(older), linked(other), linked(holds), naming(root), sample.Text("root"), sample.List()},
	}
	for i, key := range right.Keys {
		less := sample.Again(right)
		less.Keys, less.Items = slices.Delete(less.Keys, i, i+1), slices.Delete(less.Items, i, i+1)
		all["without "+key] = less
		less = sample.Again(right)
		less.Keys[i] += "x"
		all["another key than "+key] = less
		for j, v := range wrong[key] {
			bent := sample.Again(right)
			bent.Items[i] = v
			all[fmt.Sprint(key, " ", j)] = bent
		}
	}
	return all
}

// laysNamed lays all blocks that those name.
func laysNamed(s *store.Store) {
	for i := range api.MaxOps + 2 {
		put(s, sample.Text(fmt.Sprint(i)))
	}
	put(s, sample.Text("root"))
	lays(s, under(api.CodecOld, formOf(sample.Text("root"))), formOf(sample.Text("root")))
	lays(s, under(api.CodecRaw, []byte("x")), []byte("x"))
	lays(s, old([]byte("x")), []byte("x"))
}

// badForms: bytes that are no form of a commit, nearly.
func badForms() map[string][]byte {
	right := formOf(commitMap(7, someLinks(2), "note", lost("root")))
	bent := func(old, new string) []byte { return []byte(strings.Replace(string(right), old, new, 1)) }
	return map[string][]byte{
		"no bytes": {}, "a byte more": append(slices.Clone(right), 0), "a byte less": right[:len(right)-1], "it stands twice": slices.Concat(right, right),
		"not the shortest number": bent("at\x07", "at\x18\x07"), "an endless map": append(bent("\xa4", "\xbf"), 0xff),
		"a note that is no UTF-8": bent("note\x64note", "note\x64not\xff"), "not in keys' order": bent("\x62at\x07\x64from", "\x64from\x07\x62at"),
		"some bytes": []byte("forged"), "five entries of four": bent("\xa4", "\xa5"), "three entries of four": bent("\xa4", "\xa3"),
	}
}

// TestCommits: blocks that are commits, by whichever link of a tree, told in full.
func TestCommits(t *testing.T) {
	d := made(t, 1000)
	for _, want := range goodCommits() {
		b := formOf(treeOfCommit(want))
		l := lays(d.Store(), under(api.CodecTree, b), b)
		if c, e := d.Commit(l); e != api.OK || !reflect.DeepEqual(c, want) {
			t.Errorf("%+v, %d; want %+v", c, e, want)
		}
		for _, codec := range []uint64{0, api.CodecRaw, api.CodecOld, api.CodecTree + 1, 1<<63 - 1} {
			l := lays(d.Store(), under(codec, b), b)
			if c, e := d.Commit(l); e != api.ErrDepotBlock || !reflect.DeepEqual(c, api.Commit{}) {
				t.Errorf("codec %x: %+v, %d", codec, c, e)
			}
		}
		if c, e := d.Commit(lays(d.Store(), old(b), b)); e != api.ErrDepotBlock || !reflect.DeepEqual(c, api.Commit{}) {
			t.Errorf("version 0: %+v, %d", c, e)
		}
	}
	// The shortest commits are short enough for a link to hold one itself.
	short := formOf(commitMap(255, nil, "", lost("root")))
	if c, e := d.Commit(itself(api.CodecTree, short)); len(short) != api.MaxInline || e != api.OK || c.At != 255 {
		t.Errorf("%d bytes: %+v, %d", len(short), c, e)
	}
	if c, e := d.Commit(itself(api.CodecRaw, short)); e != api.ErrDepotBlock || c.At != 0 {
		t.Errorf("%+v, %d", c, e)
	}
}

// TestNoCommits: blocks that are none; links under which nothing or something else stands, that may not be.
func TestNoCommits(t *testing.T) {
	d := made(t, 1000)
	refused := func(what string, l api.Link, want api.Errno) {
		t.Helper()
		if c, e := d.Commit(l); e != want || !reflect.DeepEqual(c, api.Commit{}) {
			t.Errorf("%s: %+v, %d; want %d", what, c, e, want)
		}
		if _, e := plainCommit(d.Store(), l); e != want {
			t.Errorf("%s: the plain reading tells %d", what, e)
		}
	}
	for what, v := range badCommits() {
		refused(what, put(d.Store(), v), api.ErrDepotBlock)
	}
	for what, b := range badForms() {
		refused(what, lays(d.Store(), under(api.CodecTree, b), b), api.ErrDepotBlock)
	}
	refused("a trie", trieOf(t, d.Store(), wide, "a1"), api.ErrDepotBlock)
	refused("nothing stands there", lost("x"), api.ErrStoreNone)
	refused("nothing stands there, and it is no tree's link", under(api.CodecRaw, []byte("lost")), api.ErrStoreNone)
	for what, l := range map[string]api.Link{"a tree": lost("y"), "raw": under(api.CodecRaw, []byte("y")), "version 0": old([]byte("y"))} {
		force(d.Store(), l)
		refused(what+", forced", l, api.ErrStoreBad)
	}
	for _, l := range []api.Link{{}, {Version: 2, Codec: api.CodecTree, Hash: api.HashSha, Digest: strings.Repeat("d", 32)}, {Version: 1, Codec: api.CodecTree, Hash: api.HashSha, Digest: "short"}, {Version: 1, Codec: 1 << 63, Digest: ""}} {
		refused("a link that may not be", l, api.ErrStoreLink)
	}
	refused("a link that holds no commit", itself(api.CodecTree, []byte("\xf6")), api.ErrDepotBlock)
	refused("a link that holds nothing", itself(api.CodecTree, nil), api.ErrDepotBlock)
}

// TestForgedHead: a head whose commit was forged: its number counts, what it follows is read where it is asked for, and what its root is.
func TestForgedHead(t *testing.T) {
	d := made(t, 1000)
	forges(t, d, "far", 1000, "a1")
	changes(t, d, "far", set("far", "b", 2))
	if text := notes(t, d, "far", 9); text != "1001  1000 forged" {
		t.Errorf("%q", text)
	}
	if n, e := checks(t, d); n != 0 || e != api.ErrDepotBlock {
		t.Errorf("Check: %d, %d", n, e)
	}
	// What it follows is a tree, and no commit.
	root := trieOf(t, d.Store(), wide, "x7")
	forges(t, d, "odd", 3, "a1", root)
	is(t, d, "odd", "a", 1, true)
	if l, e := d.Log("odd", 1); len(l) != 1 || e != api.OK {
		t.Errorf("%v, %d", l, e)
	}
	if l, e := d.Log("odd", 2); l != nil || e != api.ErrDepotBlock {
		t.Errorf("%v, %d", l, e)
	}
	refuses(t, d, api.ErrDepotBlock, merge("odd", "far"))
	refuses(t, d, api.ErrDepotBlock, merge("far", "odd"))
	changes(t, d, "odd", set("odd", "b", 2))
	if top(t, d, "odd").At != 4 {
		t.Errorf("%+v", top(t, d, "odd"))
	}
	// Its root is no trie.
	s := d.Store().Copy()
	brings(t, d, "bare", s, put(s, commitMap(1, nil, "", put(s, sample.Null()))))
	for _, x := range []api.Op{set("bare", "k", 1), del("bare", "k"), row("bare", "k", 1), merge("bare", "far"), merge("far", "bare")} {
		if _, e := does(t, d, "", x); e != api.ErrTrieNode && e != api.ErrDepotBlock {
			t.Errorf("%s: %d", brief(x), e)
		}
	}
	asks(t, d, "bare", "k")
	changes(t, d, "twig", branch("twig", "bare"))
	changes(t, d, "bare", drop("bare"))
}

// TestOrderOfErrors: of an op's errors the first one of its row counts.
func TestOrderOfErrors(t *testing.T) {
	d := made(t, 1000)
	long := strings.Repeat("k", api.MaxKey+1)
	changes(t, d, "bent gone", set("gone", "k", 1), set("bent", "k", 2))
	changes(t, d, "other", branch("other", "bent"))
	changes(t, d, "bent", set("bent", "k", 3))
	d.Store().Delete(headOf(t, d, "gone"))
	force(d.Store(), headOf(t, d, "bent"))
	refuses(t, d, api.ErrStoreNone, set("gone", long, 1))
	refuses(t, d, api.ErrStoreNone, setTo("gone", "k", api.Value{}))
	refuses(t, d, api.ErrStoreBad, del("bent", long))
	refuses(t, d, api.ErrStoreBad, row("bent", long, 1))
	refuses(t, d, api.ErrStoreBad, merge("bent", "gone"))
	refuses(t, d, api.ErrStoreNone, merge("gone", "bent"))
	refuses(t, d, api.ErrStoreNone, merge("other", "gone"))
	refuses(t, d, api.ErrDepotHead, merge("gone", "none"))
	refuses(t, d, api.ErrDepotHead, branch("gone", "none"))
	refuses(t, d, api.ErrTrieKey, set("other", long, 1), set("gone", "k", 1))
	refuses(t, d, api.ErrStoreNone, set("gone", "k", 1), set("other", long, 1))
	changes(t, d, "a bent gone", branch("a", "gone"), drop("gone"), drop("bent"))
	refuses(t, d, api.ErrStoreNone, set("a", "k", 1))
}

// TestMaxCommit: the greatest number that a commit may have, and one more.
func TestMaxCommit(t *testing.T) {
	d := made(t, 1000)
	forges(t, d, "last", api.MaxCommit, "a1")
	forges(t, d, "ahead", api.MaxCommit-1, "a1")
	changes(t, d, "", set("last", "a", 1))
	refuses(t, d, api.ErrDepotFull, set("last", "a", 2))
	refuses(t, d, api.ErrDepotFull, set("ahead", "a", 2), del("last", "a"))
	refuses(t, d, api.ErrDepotFull, set("new", "a", 1), merge("new", "last"))
	refuses(t, d, api.ErrDepotFull, merge("ahead", "last"))
	refuses(t, d, api.ErrDepotHead, set("last", "a", 2), drop("none"))
	changes(t, d, "", set("last", "a", 2), set("last", "a", 1))
	changes(t, d, "new", branch("new", "last"))
	changes(t, d, "last", drop("last"), set("last", "a", 2))
	changes(t, d, "ahead", set("ahead", "a", 2))
	if c := top(t, d, "ahead"); c.At != api.MaxCommit {
		t.Errorf("%+v", c)
	}
	refuses(t, d, api.ErrDepotFull, set("ahead", "a", 3))
}

// TestFull: a store without room for the commit itself; the heads' commits are made by names, and their numbers count ahead of the room for the ones behind.
func TestFull(t *testing.T) {
	d := made(t, 1000)
	forges(t, d, "m", api.MaxCommit, "a1")
	changes(t, d, "a z", set("a", "a", 1), set("z", "a", 1))
	ops := []api.Op{set("z", "a", 2), set("m", "a", 2), set("a", "a", 2)}
	n := d.Store().Len()
	refuses(t, d, api.ErrDepotFull, ops...)
	// Room for the one new root, and for the commit of a.
	for room, want := range map[int]api.Errno{n: api.ErrStoreFull, n + 1: api.ErrStoreFull, n + 2: api.ErrDepotFull, n + 3: api.ErrDepotFull} {
		refuses(t, moved(t, d, room), want, ops...)
	}
}

// TestArchives: P21.7, archives with no root, two, such as is no commit, whatever its blocks are.
func TestArchives(t *testing.T) {
	d, s := made(t, 1000), made(t, 1000).Store()
	write := func(roots ...api.Link) []byte {
		b, e := archive.Write(s, roots)
		if e != api.OK {
			t.Fatal(e)
		}
		return b
	}
	root := trieOf(t, s, wide, "a1")
	commit := put(s, commitMap(1, nil, "", root))
	b := formOf(commitMap(1, nil, "", root))
	refused := func(what string, b []byte) {
		t.Helper()
		if n, f := imports(t, d, "x", b); n != 0 || f != (api.Fault{Code: api.ErrDepotBlock}) {
			t.Errorf("%s: %d, %v", what, n, f)
		}
	}
	refused("two commits", write(commit, put(s, commitMap(2, []api.Link{commit}, "", root))))
	refused("a commit and its trie", write(commit, root))
	refused("a trie", write(root))
	refused("raw", write(lays(s, under(api.CodecRaw, b), b)))
	refused("version 0", write(lays(s, old(b), b)))
	refused("another codec", write(lays(s, under(9, b), b)))
	laysNamed(s)
	for what, v := range badCommits() {
		refused(what, write(put(s, v)))
	}
	good := write(commit)
	head := formOf(sample.Map("roots version", sample.List(), sample.Whole(1)))
	if n, f := imports(t, d, "x", append([]byte{byte(len(head))}, head...)); n != 0 || f != (api.Fault{Code: api.ErrArchiveHead, At: 1}) {
		t.Errorf("no root: %d, %v", n, f)
	}
	for n := range len(good) {
		_, want := archive.Read(good[:n])
		if _, f := imports(t, d, "x", good[:n]); f != want || f.Code == api.OK {
			t.Errorf("%d bytes of %d: %v; want %v", n, len(good), f, want)
		}
	}
	for i := range good {
		bent := slices.Clone(good)
		bent[i] ^= 1
		imports(t, d, "x", bent)
	}
	if d.Heads() != nil || d.Store().Len() != 0 {
		t.Errorf("%q, %d blocks", d.Heads(), d.Store().Len())
	}
	if n, f := imports(t, d, "x", good); n != 2 || f.Code != api.OK {
		t.Errorf("%d, %v", n, f)
	}
}
