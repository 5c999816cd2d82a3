package change

// The chapter read a second time, plainly: what stands in unlike places is gathered into two maps; trees are equal by their forms; a merge goes by each key's three values. Nodes are read by package trie.

import (
	"fmt"
	"maps"
	"slices"
	"testing"

	"trellis/api"
	"trellis/lay"
	"trellis/store"
	"trellis/trie"
)

// formOf: the form of a tree; whether it is one.
func formOf(v api.Value) (string, bool) {
	b, e := lay.Encode(v)
	return string(b), e == api.OK
}

// treesAlike: whether two values are trees of one form.
func treesAlike(v, w api.Value) bool {
	a, is := formOf(v)
	b, too := formOf(w)
	return is && too && a == b
}

// difference: what Diff has read so far.
type difference struct {
	store    *store.Store
	widths   api.Trie
	had, has table
	read     []api.Link // in order
	e        api.Errno  // the first one; behind it nothing is read
}

// node: the elements of a node by their slices; of none behind an error.
func (d *difference) node(path []int, l api.Link) map[int]api.Element {
	if d.e != api.OK {
		return nil
	}
	d.read = append(d.read, l)
	var list []api.Element
	list, d.e = trie.Node(d.store, d.widths, path, l)
	n := map[int]api.Element{}
	for _, x := range list {
		n[x.Slice] = x
	}
	return n
}

// sides: two nodes side by side, slice by slice.
func (d *difference) sides(path []int, a, b map[int]api.Element) {
	none := api.Link{}
	for i := range 1 << d.widths.Width {
		here := slices.Concat(path, []int{i})
		x, y := a[i], b[i]
		switch {
		case x.Below != none && x.Below == y.Below:
		case x.Below != none && y.Below != none:
			below := d.node(here, x.Below)
			d.sides(here, below, d.node(here, y.Below))
		default:
			d.whole(here, x, d.had)
			d.whole(here, y, d.has)
		}
	}
}

// whole: all that an element has, into a map.
func (d *difference) whole(path []int, x api.Element, m table) {
	for _, y := range x.Entries {
		m[string(y.Key)] = y.Value
	}
	if x.Below == (api.Link{}) {
		return
	}
	n := d.node(path, x.Below)
	for _, i := range slices.Sorted(maps.Keys(n)) {
		d.whole(slices.Concat(path, []int{i}), n[i], m)
	}
}

// plainDiff: what Diff tells, and what it reads.
func plainDiff(s *store.Store, a, b api.Link) ([]api.Change, []api.Link, api.Errno) {
	d := difference{store: s, had: table{}, has: table{}}
	top := d.node(nil, a)
	if a == b || d.e != api.OK {
		return nil, d.read, d.e
	}
	other := d.node(nil, b)
	if d.e != api.OK {
		return nil, d.read, d.e
	}
	c, _ := trie.Widths(s, a)
	if also, _ := trie.Widths(s, b); c != also {
		return nil, d.read, api.ErrChangeConfig
	}
	d.widths = c
	d.sides(nil, top, other)
	if d.e != api.OK {
		return nil, d.read, d.e
	}
	return mapDiff(d.had, d.has), d.read, api.OK
}

// mapDiff: the changes that make of a map another one.
func mapDiff(had, has table) []api.Change {
	keys := maps.Clone(had)
	maps.Copy(keys, has)
	var l []api.Change
	for _, key := range slices.Sorted(maps.Keys(keys)) {
		c := api.Change{Key: []byte(key)}
		c.Old, c.Had = had[key]
		c.New, c.Has = has[key]
		if !c.Had || !c.Has || !treesAlike(c.Old, c.New) {
			l = append(l, c)
		}
	}
	return l
}

// turned: changes the other way round.
func turned(l []api.Change) []api.Change {
	var m []api.Change
	for _, c := range l {
		m = append(m, api.Change{Key: c.Key, Had: c.Has, Has: c.Had, Old: c.New, New: c.Old})
	}
	return m
}

// ill: whether P16.2's first row applies.
func ill(l []api.Change) bool {
	for i, c := range l {
		for _, ahead := range l[:i] {
			if string(ahead.Key) >= string(c.Key) {
				return true
			}
		}
		if !c.Had && !c.Has || c.Had && c.Has && treesAlike(c.Old, c.New) {
			return true
		}
		if !c.Had && written(c.Old) != written(api.Value{}) || !c.Has && written(c.New) != written(api.Value{}) {
			return true
		}
	}
	return false
}

// plainPatch: what Patch does.
func plainPatch(s *store.Store, root api.Link, l []api.Change) (api.Link, api.Errno) {
	if ill(l) {
		return api.Link{}, api.ErrChangeOrder
	}
	if _, e := trie.Widths(s, root); e != api.OK {
		return api.Link{}, e
	}
	for _, c := range l {
		v, is, e := trie.Get(s, root, c.Key)
		if e != api.OK {
			return api.Link{}, e
		}
		if is && !c.Had || c.Had && !is || is && !treesAlike(c.Old, v) {
			return api.Link{}, api.ErrChangeOld
		}
	}
	var gone [][]byte
	var in []api.Entry
	for _, c := range l {
		if c.Has {
			in = append(in, api.Entry{Key: c.Key, Value: c.New})
			continue
		}
		gone = append(gone, c.Key)
	}
	return trie.Apply(s, root, gone, in)
}

// state: a key's value in a map, if it has one.
type state struct {
	v  api.Value
	is bool
}

func (x state) like(y state) bool { return x.is == y.is && (!x.is || treesAlike(x.v, y.v)) }

// stateOf: a key's value in a map.
func stateOf(m table, key string) state {
	v, is := m[key]
	return state{v, is}
}

// mergedState: a key's value behind a merge, and whether it clashes.
func mergedState(base, ours, theirs state, other bool) (state, bool) {
	switch {
	case ours.like(base):
		return theirs, false
	case theirs.like(base), ours.like(theirs):
		return ours, false
	case other:
		return theirs, true
	}
	return ours, true
}

// plainMerge: what Merge does: of the keys in either row of changes.
func plainMerge(s *store.Store, base, ours, theirs api.Link, other bool) (api.Link, []string, api.Errno) {
	one, _, e := plainDiff(s, base, ours)
	if e != api.OK {
		return api.Link{}, nil, e
	}
	two, _, e := plainDiff(s, base, theirs)
	if e != api.OK {
		return api.Link{}, nil, e
	}
	// Where a row has no change of a key, its map has it as the base.
	first, second, third := map[string]state{}, map[string]state{}, map[string]state{}
	for _, c := range slices.Concat(one, two) {
		x := state{c.Old, c.Had}
		first[string(c.Key)], second[string(c.Key)], third[string(c.Key)] = x, x, x
	}
	for _, c := range one {
		second[string(c.Key)] = state{c.New, c.Has}
	}
	for _, c := range two {
		third[string(c.Key)] = state{c.New, c.Has}
	}
	var gone [][]byte
	var in []api.Entry
	var clashes []string
	for _, key := range slices.Sorted(maps.Keys(first)) {
		x, clash := mergedState(first[key], second[key], third[key], other)
		if clash {
			clashes = append(clashes, key)
		}
		if x.like(second[key]) {
			continue
		}
		if x.is {
			in = append(in, api.Entry{Key: []byte(key), Value: x.v})
		} else {
			gone = append(gone, []byte(key))
		}
	}
	root, e := trie.Apply(s, ours, gone, in)
	if e != api.OK {
		return api.Link{}, nil, e
	}
	return root, clashes, api.OK
}

// mergedMap: the map of a merge, and the keys that clash.
func mergedMap(base, ours, theirs table, other bool) (table, []string) {
	keys, m := maps.Clone(base), table{}
	maps.Copy(keys, ours)
	maps.Copy(keys, theirs)
	var clashes []string
	for _, key := range slices.Sorted(maps.Keys(keys)) {
		x, clash := mergedState(stateOf(base, key), stateOf(ours, key), stateOf(theirs, key), other)
		if x.is {
			m[key] = x.v
		}
		if clash {
			clashes = append(clashes, key)
		}
	}
	return m, clashes
}

// written: a value as a text, field by field, in which nil and empty lists are one.
func written(v api.Value) string {
	text := fmt.Sprintf("{%d %v %v %d %x %q %x %d %d %d %q %q", v.Kind, v.Flag, v.Neg, v.N, v.Bits, v.Text, v.Bytes, v.Link.Version, v.Link.Codec, v.Link.Hash, v.Link.Digest, v.Keys)
	for _, item := range v.Items {
		text += " " + written(item)
	}
	return text + "}"
}

// shown: changes as a text.
func shown(l []api.Change) string {
	text := ""
	for _, c := range l {
		text += fmt.Sprintf("%q %v %s, %v %s\n", c.Key, c.Had, written(c.Old), c.Has, written(c.New))
	}
	return text
}

// texts: keys as texts.
func texts(keys [][]byte) []string {
	var l []string
	for _, key := range keys {
		l = append(l, string(key))
	}
	return l
}

// differs: Diff, held against the plain reading.
func differs(t *testing.T, s *store.Store, a, b api.Link) ([]api.Change, api.Errno) {
	t.Helper()
	was := standing(s)
	want, _, bad := plainDiff(s, a, b)
	l, e := Diff(s, a, b)
	if e != bad || shown(l) != shown(want) {
		t.Fatalf("Diff: %d,\n%s; want %d,\n%s", e, shown(l), bad, shown(want))
	}
	if !maps.Equal(standing(s), was) {
		t.Fatalf("Diff has changed the store")
	}
	return l, e
}

// patches: Patch, held against the plain reading, with all blocks that stand behind it.
func patches(t *testing.T, s *store.Store, root api.Link, l []api.Change) (api.Link, api.Errno) {
	t.Helper()
	on := s.Copy()
	want, bad := plainPatch(on, root, l)
	got, e := Patch(s, root, l)
	if got != want || e != bad {
		t.Fatalf("Patch of\n%s: %d, another root: %v; want %d", shown(l), e, got != want, bad)
	}
	if !maps.Equal(standing(s), standing(on)) {
		t.Fatalf("Patch of\n%s: %d; other blocks stand than should", shown(l), e)
	}
	return got, e
}

// merges: Merge, held against the plain reading, with all blocks that stand behind it.
func merges(t *testing.T, s *store.Store, base, ours, theirs api.Link, other bool) (api.Link, []string, api.Errno) {
	t.Helper()
	on := s.Copy()
	want, clashes, bad := plainMerge(on, base, ours, theirs, other)
	got, keys, e := Merge(s, base, ours, theirs, other)
	if got != want || e != bad || !slices.Equal(texts(keys), clashes) {
		t.Fatalf("Merge: %q, %d, another root: %v; want %q, %d", keys, e, got != want, clashes, bad)
	}
	if !maps.Equal(standing(s), standing(on)) {
		t.Fatalf("Merge: %d; other blocks stand than should", e)
	}
	return got, clashes, e
}
