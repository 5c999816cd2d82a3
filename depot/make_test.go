package depot

// Depots, ops, commits right and forged, and broken stores for the tests.

import (
	"fmt"
	"slices"
	"strings"
	"testing"

	"trellis/api"
	"trellis/archive"
	"trellis/lay"
	"trellis/link"
	"trellis/sample"
	"trellis/store"
	"trellis/trie"
)

// wide: the widths of the chapter's examples.
var wide = api.Trie{Width: 5, Bucket: 3, Bytes: 4}

// narrow: others, by which few keys make a deep trie.
var narrow = api.Trie{Width: 1, Bucket: 1, Bytes: 4}

// madeOf: a depot without heads.
func madeOf(t *testing.T, room int, c api.Trie, width int) *Depot {
	t.Helper()
	d, e := New(room, c, width)
	if e != api.OK {
		t.Fatal(e)
	}
	return d
}

// made: one with room for so many blocks, with the widths of the chapter's examples.
func made(t *testing.T, room int) *Depot {
	t.Helper()
	return madeOf(t, room, wide, 4)
}

func set(head, key string, n uint64) api.Op { return setTo(head, key, sample.Whole(n)) }

func setTo(head, key string, v api.Value) api.Op {
	return api.Op{Kind: api.OpSet, Head: head, Key: []byte(key), Value: v}
}

func del(head, key string) api.Op {
	return api.Op{Kind: api.OpDelete, Head: head, Key: []byte(key)}
}

func row(head, key string, samples ...float32) api.Op {
	return api.Op{Kind: api.OpAppend, Head: head, Key: []byte(key), Samples: samples}
}

func branch(head, other string) api.Op {
	return api.Op{Kind: api.OpBranch, Head: head, Other: other}
}

func drop(head string) api.Op { return api.Op{Kind: api.OpDrop, Head: head} }

func merge(head, other string) api.Op { return api.Op{Kind: api.OpMerge, Head: head, Other: other} }

func ours(head, other string) api.Op {
	return api.Op{Kind: api.OpMerge, Head: head, Other: other, Ours: true}
}

func theirs(head, other string) api.Op {
	return api.Op{Kind: api.OpMerge, Head: head, Other: other, Theirs: true}
}

// commitMap: the tree of a commit.
func commitMap(at uint64, from []api.Link, note string, root api.Link) api.Value {
	return sample.Map("at from note root", sample.Whole(at), naming(from...), sample.Text(note), linked(root))
}

// naming: the list of some links.
func naming(links ...api.Link) api.Value {
	v := sample.List()
	for _, l := range links {
		v.Items = append(v.Items, linked(l))
	}
	return v
}

// formOf: the form of a tree.
func formOf(v api.Value) []byte {
	b, e := lay.Encode(v)
	if e != api.OK {
		panic(e)
	}
	return b
}

// under: the link of version 1 that a codec and bytes have.
func under(codec uint64, b []byte) api.Link {
	l, e := link.Of(codec, b)
	if e != api.OK {
		panic(e)
	}
	return l
}

// old: the link of version 0 of bytes.
func old(b []byte) api.Link {
	l := under(api.CodecOld, b)
	l.Version = 0
	return l
}

// itself: the link of the bytes themselves.
func itself(codec uint64, b []byte) api.Link {
	return api.Link{Version: 1, Codec: codec, Hash: api.HashNone, Digest: string(b)}
}

// lost: a link of a tree under which nothing stands.
func lost(name string) api.Link { return under(api.CodecTree, formOf(sample.Text(name))) }

// put lays a tree block.
func put(s *store.Store, v api.Value) api.Link {
	return lays(s, under(api.CodecTree, formOf(v)), formOf(v))
}

// lays lays a block under a link that holds it.
func lays(s *store.Store, l api.Link, b []byte) api.Link {
	if _, e := s.Add(api.Block{Link: l, Bytes: b}); e != api.OK {
		panic(e)
	}
	return l
}

// force lays other bytes than a link's under it.
func force(s *store.Store, l api.Link) {
	if e := s.Force(l, []byte("forced")); e != api.OK {
		panic(e)
	}
}

// blockOf: what stands under a link.
func blockOf(t *testing.T, d *Depot, l api.Link) []byte {
	t.Helper()
	b, e := d.Store().Get(l)
	if e != api.OK {
		t.Fatalf("%v: %d", l, e)
	}
	return b
}

// headOf: the commit of a head.
func headOf(t *testing.T, d *Depot, name string) api.Link {
	t.Helper()
	l, is := d.Head(name)
	if !is {
		t.Fatalf("there is no head %q", name)
	}
	return l
}

// top: what the commit of a head says.
func top(t *testing.T, d *Depot, name string) api.Commit {
	t.Helper()
	c, e := d.Commit(headOf(t, d, name))
	if e != api.OK {
		t.Fatalf("head %q: %d", name, e)
	}
	return c
}

// trieOf: the root of a map of some letters, each with a digit, in a store.
func trieOf(t *testing.T, s *store.Store, c api.Trie, text string) api.Link {
	t.Helper()
	root, e := trie.New(s, c)
	for ; e == api.OK && text != ""; text = text[2:] {
		root, e = trie.Set(s, root, []byte(text[:1]), sample.Whole(uint64(text[1]-'0')))
	}
	if e != api.OK {
		t.Fatal(e)
	}
	return root
}

// brings makes a head of any commit, that stands in another store with all that it reaches.
func brings(t *testing.T, d *Depot, name string, s *store.Store, l api.Link) {
	t.Helper()
	b, e := archive.Write(s, []api.Link{l})
	if e != api.OK {
		t.Fatalf("Write: %d", e)
	}
	if _, f := d.Import(name, b); f.Code != api.OK {
		t.Fatalf("Import: %v", f)
	}
}

// forges makes a head of a commit of that number, that follows such others, with a map of some letters.
func forges(t *testing.T, d *Depot, name string, at uint64, text string, from ...api.Link) api.Link {
	t.Helper()
	s := d.Store().Copy()
	l := put(s, commitMap(at, from, "forged", trieOf(t, s, wide, text)))
	brings(t, d, name, s, l)
	return l
}

// standing: what stands in a store, right or not, and how much it is.
func standing(s *store.Store) string {
	var text strings.Builder
	fmt.Fprint(&text, s.Len(), s.Size(), s.Room())
	for _, l := range s.Links() {
		b, e := s.Get(l)
		fmt.Fprintf(&text, " %v:%x:%d", l, b, e)
	}
	return text.String()
}

// state: all that a depot is: its heads, what stands in its store.
func state(d *Depot) string { return fmt.Sprint(commits(d)) + standing(d.Store()) }

// commits: the heads of a depot, by their names.
func commits(d *Depot) map[string]api.Link {
	all := map[string]api.Link{}
	for _, name := range d.Heads() {
		all[name], _ = d.Head(name)
	}
	return all
}

// twin: another depot with the same heads, over a copy of the store.
func twin(d *Depot) *Depot { return &Depot{d.again(), d.store.Copy(), d.plan} }

// told: entries as one text, by keys.
func told(l []api.Entry) string {
	var texts []string
	for _, x := range l {
		texts = append(texts, fmt.Sprintf("%q %x", x.Key, formOf(x.Value)))
	}
	slices.Sort(texts)
	return strings.Join(texts, ", ")
}

// entries: all that a head has, as one text.
func entries(t *testing.T, d *Depot, name string) string {
	t.Helper()
	l, e := d.Entries(name)
	if e != api.OK {
		t.Fatalf("Entries of %q: %d", name, e)
	}
	return told(l)
}

// again: ops in memory of their own, their empty lists not nil.
func again(ops []api.Op) []api.Op {
	var list []api.Op
	for _, x := range ops {
		x.Key = append([]byte{}, x.Key...)
		x.Value = sample.Again(x.Value)
		x.Samples = append([]float32{}, x.Samples...)
		list = append(list, x)
	}
	return list
}

// brief: ops as a text.
func brief(ops ...api.Op) string { return fmt.Sprintf("%+v", ops) }

// moved: another depot with the same heads and blocks, and room for so many.
func moved(t *testing.T, d *Depot, room int) *Depot {
	t.Helper()
	s, e := store.New(room)
	for _, l := range d.Store().Links() {
		if e == api.OK {
			_, e = s.Add(api.Block{Link: l, Bytes: blockOf(t, d, l)})
		}
	}
	if e != api.OK {
		t.Fatal(e)
	}
	return &Depot{d.again(), s, d.plan}
}
