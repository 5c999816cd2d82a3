package trie

import (
	"bytes"
	"fmt"
	"maps"
	"slices"
	"strings"
	"testing"

	"trellis/api"
	"trellis/sample"
	"trellis/store"
	"trellis/value"
)

// small: the widths of the chapter's examples.
var small = api.Trie{Width: 2, Bucket: 1, Bytes: 1}

// made tells an empty store.
func made(t *testing.T, room int) *store.Store {
	t.Helper()
	s, e := store.New(room)
	if e != api.OK {
		t.Fatalf("New(%d): %d", room, e)
	}
	return s
}

// begun tells a store and the root of an empty trie in it.
func begun(t *testing.T, c api.Trie) (*store.Store, api.Link) {
	t.Helper()
	s := made(t, 10000)
	root, e := New(s, c)
	if e != api.OK {
		t.Fatalf("New(%v): %d", c, e)
	}
	return s, root
}

// sets tells the root behind a Set that is taken.
func sets(t *testing.T, s *store.Store, root api.Link, key string, v api.Value) api.Link {
	t.Helper()
	l, e := Set(s, root, []byte(key), v)
	if e != api.OK {
		t.Fatalf("Set(%.20q): %d", key, e)
	}
	return l
}

// filled tells a store and the root of a trie with these keys, whose values are their places, from 1 on.
func filled(t *testing.T, c api.Trie, keys ...string) (*store.Store, api.Link) {
	t.Helper()
	s, root := begun(t, c)
	for i, key := range keys {
		root = sets(t, s, root, key, sample.Whole(uint64(i+1)))
	}
	return s, root
}

// gets: does Get tell this number, or, if none is told, that there is nothing?
func gets(t *testing.T, s *store.Store, root api.Link, key string, want ...uint64) {
	t.Helper()
	v, has, e := Get(s, root, []byte(key))
	is := api.Value{}
	if len(want) > 0 {
		is = sample.Whole(want[0])
	}
	if e != api.OK || has != (len(want) > 0) || !sameValue(v, is) {
		t.Errorf("Get(%.20q): %v, %v, %d; want %v", key, v, has, e, want)
	}
}

// fails: do all calls that read the key's path refuse it so, and change nothing?
func fails(t *testing.T, s *store.Store, root api.Link, key string, want api.Errno) {
	t.Helper()
	was := standing(s)
	v, has, e := Get(s, root, []byte(key))
	if e != want || has || !sameValue(v, api.Value{}) {
		t.Errorf("Get(%.20q): %v, %v, %d; want %d", key, v, has, e, want)
	}
	if l, e := Set(s, root, []byte(key), sample.Null()); e != want || l != (api.Link{}) {
		t.Errorf("Set(%.20q): %v, %d; want %d", key, l, e, want)
	}
	if l, had, e := Delete(s, root, []byte(key)); e != want || l != (api.Link{}) || had {
		t.Errorf("Delete(%.20q): %v, %v, %d; want %d", key, l, had, e, want)
	}
	if l, e := Apply(s, root, byteKeys(key), nil); e != want || l != (api.Link{}) {
		t.Errorf("Apply(%.20q): %v, %d; want %d", key, l, e, want)
	}
	if !maps.Equal(standing(s), was) {
		t.Errorf("%.20q: what is refused has changed something", key)
	}
}

// pairsOf tells all pairs of a trie.
func pairsOf(s *store.Store, root api.Link) []pair {
	var list []pair
	for y, e := range All(s, root) {
		list = append(list, pair{string(y.Key), y.Value, e})
	}
	return list
}

// keysOf tells a trie's keys as one text, a blank between two, and the error, if there is one.
func keysOf(s *store.Store, root api.Link) string {
	text := ""
	for y, e := range All(s, root) {
		if e != api.OK {
			return strings.TrimSpace(fmt.Sprint(text, " ", int(e)))
		}
		text += " " + string(y.Key)
	}
	return strings.TrimSpace(text)
}

// agrees: are Widths, All, Entries and Check of a root what the chapter says?
func agrees(t *testing.T, s *store.Store, root api.Link) {
	t.Helper()
	c, _, e := readTop(s, root)
	if d, f := Widths(s, root); d != c || f != e {
		t.Errorf("Widths: %v, %d; want %v, %d", d, f, c, e)
	}
	want, count, check := plainAll(s, root)
	told := pairsOf(s, root)
	if !samePairs(told, want) {
		t.Errorf("All: %v; want %v", told, want)
	}
	if n, e := Check(s, root); n != count || e != check {
		t.Errorf("Check: %d, %d; want %d, %d", n, e, count, check)
	}
	list, e := Entries(s, root)
	var pairs []pair
	for _, y := range list {
		pairs = append(pairs, pair{string(y.Key), y.Value, api.OK})
	}
	if last := len(want) - 1; last >= 0 && want[last].e != api.OK {
		if e != want[last].e || list != nil {
			t.Errorf("Entries: %v, %d; want %d", pairs, e, want[last].e)
		}
	} else if e != api.OK || !samePairs(pairs, want) {
		t.Errorf("Entries: %v, %d; want %v", pairs, e, want)
	}
}

// finds: does Get tell what the chapter says?
func finds(t *testing.T, s *store.Store, root api.Link, key []byte) {
	t.Helper()
	want, is, e := plainGet(s, root, key)
	if v, has, f := Get(s, root, key); has != is || f != e || !sameValue(v, want) {
		t.Errorf("Get(%.20q): %v, %v, %d; want %v, %v, %d", key, v, has, f, want, is, e)
	}
}

// behind tells what stands when blocks have been added, or that there is no room for them.
func behind(s *store.Store, blocks map[api.Link]string) (map[api.Link]string, api.Errno) {
	all := standing(s)
	was := maps.Clone(all)
	maps.Copy(all, blocks)
	if len(all) > s.Room() {
		return was, api.ErrStoreFull
	}
	return all, api.OK
}

// applies: does Apply, or the Set or Delete that it is, do what the chapter says? The root that it tells, if there is one.
func applies(t *testing.T, s *store.Store, root api.Link, gone [][]byte, l []api.Entry) (api.Link, bool) {
	t.Helper()
	want, taken, blocks, e := plainApply(s, root, gone, l)
	stands := standing(s)
	if e == api.OK {
		if stands, e = behind(s, blocks); e != api.OK {
			want, taken = api.Link{}, 0
		}
	}
	calls := []func(s *store.Store) (api.Link, bool, api.Errno){func(s *store.Store) (api.Link, bool, api.Errno) {
		answer, f := Apply(s, root, gone, l)
		return answer, taken > 0, f
	}}
	if len(gone) == 0 && len(l) == 1 {
		calls = append(calls, func(s *store.Store) (api.Link, bool, api.Errno) {
			answer, f := Set(s, root, l[0].Key, l[0].Value)
			return answer, false, f
		})
	}
	if len(gone) == 1 && len(l) == 0 {
		calls = append(calls, func(s *store.Store) (api.Link, bool, api.Errno) { return Delete(s, root, gone[0]) })
	}
	for i, call := range calls {
		on := s
		if i < len(calls)-1 {
			on = s.Copy()
		}
		if answer, had, f := call(on); answer != want || had != (taken > 0) || f != e {
			t.Errorf("%d: gone %.20q, in %.60v: %x, %v, %d; want %x, %d, %d", i, gone, l, answer.Digest, had, f, want.Digest, taken, e)
		}
		if !maps.Equal(standing(on), stands) {
			t.Errorf("%d: gone %.20q, in %.60v: other blocks stand than should", i, gone, l)
		}
	}
	return want, e == api.OK
}

// TestExamples: the chapter's.
func TestExamples(t *testing.T) {
	s, root := begun(t, small)
	form := func(root api.Link, want ...byte) {
		t.Helper()
		if b, e := s.Get(root); e != api.OK || !bytes.Equal(b, want) {
			t.Errorf("% x, %d; want % x", b, e, want)
		}
	}
	form(root, 0x86, 0x64, 0x74, 0x72, 0x69, 0x65, 2, 1, 1, 0x41, 0, 0x80)
	empty := root
	b := sets(t, s, root, "b", sample.Whole(1))
	form(b, 0x86, 0x64, 0x74, 0x72, 0x69, 0x65, 2, 1, 1, 0x41, 1, 0x81, 0x81, 0x82, 0x41, 0x62, 1)
	root = sets(t, s, b, "c", sample.Whole(2))
	top, e := Node(s, api.Trie{}, nil, root)
	if e != api.OK || len(top) != 1 || top[0].Slice != 0 || top[0].Entries != nil {
		t.Fatalf("Node: %v, %d", top, e)
	}
	form(top[0].Below, 0x82, 0x41, 0x0c, 0x82, 0x81, 0x82, 0x41, 0x63, 2, 0x81, 0x82, 0x41, 0x62, 1)
	root = sets(t, s, root, "a", sample.Whole(3))
	if b, _ := s.Get(root); !bytes.HasPrefix(b, []byte{0x86, 0x64, 0x74, 0x72, 0x69, 0x65, 2, 1, 1, 0x41, 9, 0x82}) {
		t.Errorf("% x", b)
	}
	if keys := keysOf(s, root); keys != "c b a" {
		t.Errorf("All: %s", keys)
	}
	other := sets(t, s, sets(t, s, empty, "c", sample.Whole(2)), "a", sample.Whole(3))
	if l, had, e := Delete(s, root, []byte("b")); l != other || !had || e != api.OK {
		t.Errorf("Delete: %v, %v, %d", l, had, e)
	}
	s.Delete(top[0].Below)
	gets(t, s, root, "a", 3)
	fails(t, s, root, "b", api.ErrStoreNone)
	if keys := keysOf(s, root); keys != "136" {
		t.Errorf("All: %s", keys)
	}
	agrees(t, s, root)
}

// TestNew: P14.1, of widths at their edges.
func TestNew(t *testing.T) {
	for _, width := range []int{-1 << 63, -1, 0, 1, 2, 3, 8, 9, 1<<63 - 1} {
		for _, bucket := range []int{-1, 0, 1, 2, 16, 17, 1 << 40} {
			for _, count := range []int{-8, 0, 1, 2, 32, 33, 1 << 62} {
				s, c := made(t, 1), api.Trie{Width: width, Bucket: bucket, Bytes: count}
				good := width >= 1 && width <= 8 && bucket >= 1 && bucket <= 16 && count >= 1 && count <= 32
				l, e := New(s, c)
				if !good {
					if l != (api.Link{}) || e != api.ErrTrieConfig || s.Len() != 0 {
						t.Errorf("New(%v): %v, %d", c, l, e)
					}
					continue
				}
				blocks := map[api.Link]string{}
				if want := trieOf(blocks, c, nil); l != want || e != api.OK || !maps.Equal(standing(s), blocks) {
					t.Errorf("New(%v): %v, %d", c, l, e)
				}
				agrees(t, s, l)
			}
		}
	}
}

// TestNewRefused: P14.1, the store's error is handed on.
func TestNewRefused(t *testing.T) {
	s := made(t, 1)
	if _, e := s.Put(api.CodecRaw, nil); e != api.OK {
		t.Fatal(e)
	}
	if l, e := New(s, small); l != (api.Link{}) || e != api.ErrStoreFull || s.Len() != 1 {
		t.Errorf("New: %v, %d", l, e)
	}
	if l, e := New(s, api.Trie{}); l != (api.Link{}) || e != api.ErrTrieConfig {
		t.Errorf("New: %v, %d", l, e)
	}
}

// TestScripts: P14.2 to P14.6, P14.8, P14.9, P14.11 and P14.12: whatever is done, the root is that of the map, earlier ones answer as they did, and no other blocks stand than theirs. Two tries are in the store.
func TestScripts(t *testing.T) {
	pool := keyPool()
	for at, c := range manyWidths {
		for seed := range 3 {
			d := sample.Dice(100*at + seed)
			s, root := begun(t, c)
			other := trieOf(map[api.Link]string{}, api.Trie{Width: 4, Bucket: 1, Bytes: 1}, nil)
			if l, e := New(s, api.Trie{Width: 4, Bucket: 1, Bytes: 1}); l != other || e != api.OK {
				t.Fatalf("New: %d", e)
			}
			m, stands := table{}, standing(s)
			roots, states := []api.Link{root}, []table{{}}
			for range 40 {
				gone, in := anyChange(&d, pool)
				next := changed(m, gone, in)
				l, ok := applies(t, s, root, gone, in)
				if ok != mayBeMap(c, next) {
					t.Fatalf("%v, seed %d: taken %v", c, seed, ok)
				}
				if !ok {
					continue
				}
				if want := trieOf(stands, c, next); l != want || !maps.Equal(standing(s), stands) {
					t.Fatalf("%v, seed %d: not the root of the map, or not its blocks", c, seed)
				}
				root, m = l, next
				roots, states = append(roots, root), append(states, m)
			}
			for i := len(roots) - 1; i >= 0; i -= 5 {
				answersAs(t, s, roots[i], states[i], pool)
			}
			answersAs(t, s, other, nil, pool)
		}
	}
}

// anyChange tells keys that go and entries that come: often one alone.
func anyChange(d *sample.Dice, pool []string) (gone [][]byte, in []api.Entry) {
	out, into := d.Below(2), 1
	if d.Below(4) == 0 {
		out, into = d.Below(6), d.Below(6)
	} else if out == 1 {
		into = 0
	}
	for range out {
		gone = append(gone, []byte(pool[d.Below(len(pool))]))
	}
	for range into {
		in = append(in, api.Entry{Key: []byte(pool[d.Below(len(pool))]), Value: d.Tree(2)})
	}
	return gone, in
}

// changed tells the map behind a change.
func changed(m table, gone [][]byte, in []api.Entry) table {
	m = maps.Clone(m)
	for _, key := range gone {
		delete(m, string(key))
	}
	for _, y := range in {
		m[string(y.Key)] = value.Sorted(y.Value)
	}
	return m
}

// answersAs: do all calls answer as of this map?
func answersAs(t *testing.T, s *store.Store, root api.Link, m table, pool []string) {
	t.Helper()
	agrees(t, s, root)
	if n, e := Check(s, root); n != len(m) || e != api.OK {
		t.Errorf("Check: %d, %d; want %d", n, e, len(m))
	}
	told := table{}
	for _, p := range pairsOf(s, root) {
		told[p.key] = p.value
	}
	if !maps.EqualFunc(told, m, sameValue) {
		t.Errorf("All: %v; want %v", told, m)
	}
	for _, key := range pool {
		want, is := m[key]
		if v, has, e := Get(s, root, []byte(key)); has != is || e != api.OK || !sameValue(v, want) {
			t.Errorf("Get(%.20q): %v, %v, %d; want %v", key, v, has, e, want)
		}
	}
}

// TestOrders: P14.8, a map that is made in several orders, with others in between that go again.
func TestOrders(t *testing.T) {
	for _, c := range []api.Trie{{Width: 1, Bucket: 1, Bytes: 4}, {Width: 4, Bucket: 2, Bytes: 4}, {Width: 8, Bucket: 16, Bytes: 4}} {
		keys := append(alike(13, 6), "a", "b", "c", "")
		m := table{}
		for i, key := range keys {
			m[key] = sample.Whole(uint64(i))
		}
		want := trieOf(map[api.Link]string{}, c, m)
		for seed := range 10 {
			d := sample.Dice(seed)
			s, root := begun(t, c)
			var order []string
			for _, key := range keys {
				order = slices.Insert(order, d.Below(len(order)+1), key)
			}
			for _, key := range order {
				between := alike(8, 4)[d.Below(4)]
				_, kept := m[between]
				root = sets(t, s, root, key, m[key])
				if kept {
					continue
				}
				root = sets(t, s, root, between, sample.Null())
				var had bool
				var e api.Errno
				if root, had, e = Delete(s, root, []byte(between)); !had || e != api.OK {
					t.Fatalf("Delete: %v, %d", had, e)
				}
			}
			if root != want {
				t.Errorf("%v, %q: another root", c, order)
			}
		}
	}
}

// TestKeys: P14.2 to P14.4 and P14.12, keys at their edges.
func TestKeys(t *testing.T) {
	s, root := begun(t, small)
	none, most, more := "", strings.Repeat("k", api.MaxKey), strings.Repeat("k", api.MaxKey+1)
	root = sets(t, s, sets(t, s, root, none, sample.Whole(1)), most, sample.Whole(2))
	gets(t, s, root, none, 1)
	gets(t, s, root, most, 2)
	fails(t, s, root, more, api.ErrTrieKey)
	// Ahead of the look at the value, and of the root.
	fails(t, s, api.Link{}, more, api.ErrTrieKey)
	for _, x := range []struct {
		gone []string
		l    []api.Entry
		e    api.Errno
	}{
		{[]string{more}, []api.Entry{{Key: []byte("a")}}, api.ErrTrieKey},
		{nil, []api.Entry{{Key: []byte("a")}, {Key: []byte(more)}}, api.ErrTrieKey},
		{[]string{"a"}, []api.Entry{{Key: []byte("a")}}, api.ErrTrieValue},
		{[]string{"a", more}, nil, api.ErrTrieKey},
		{nil, []api.Entry{{Key: []byte("a"), Value: sample.Null()}, {Key: []byte("b")}}, api.ErrTrieValue},
		{nil, []api.Entry{{Key: []byte("a"), Value: sample.Null()}}, api.ErrStoreLink},
		{nil, nil, api.ErrStoreLink},
	} {
		if l, e := Apply(s, api.Link{}, byteKeys(x.gone...), x.l); l != (api.Link{}) || e != x.e {
			t.Errorf("Apply(%.20q, %.20v): %d; want %d", x.gone, x.l, e, x.e)
		}
	}
	if l, e := Set(s, root, []byte(more), api.Value{}); l != (api.Link{}) || e != api.ErrTrieKey {
		t.Errorf("Set: %d", e)
	}
	if l, e := Set(s, api.Link{}, nil, api.Value{}); l != (api.Link{}) || e != api.ErrTrieValue {
		t.Errorf("Set: %d", e)
	}
	for _, key := range []string{most, none} {
		l, had, e := Delete(s, root, []byte(key))
		if !had || e != api.OK {
			t.Errorf("Delete(%.20q): %v, %d", key, had, e)
		}
		root = l
	}
	if first, _ := New(s, small); root != first {
		t.Errorf("the empty trie has another root")
	}
}

// TestValues: P14.3, values at their edges, and such as are no trees.
func TestValues(t *testing.T) {
	s, root := begun(t, small)
	longMap := api.Value{Kind: api.KindMap, Keys: []string{"b", "a"}, Items: []api.Value{octets(strings.Repeat("x", 4087)), sample.Null()}}
	longer := sample.Again(longMap)
	longer.Items[0] = octets(strings.Repeat("x", 4088))
	for i, x := range []struct {
		v api.Value
		e api.Errno
	}{
		{octets(strings.Repeat("x", 4093)), api.OK}, {octets(strings.Repeat("x", 4094)), api.ErrTrieValue},
		{sample.Text(strings.Repeat("x", 4093)), api.OK}, {sample.Text(strings.Repeat("x", 4094)), api.ErrTrieValue},
		{longMap, api.OK}, {longer, api.ErrTrieValue},
		{sample.Within(sample.Null(), 512, "l"), api.OK}, {sample.Within(sample.Null(), 513, "l"), api.ErrTrieValue},
		{sample.Within(sample.List(), 511, "lm"), api.OK}, {sample.Within(sample.List(), 512, "lm"), api.ErrTrieValue},
		{sample.Within(sample.Null(), 1024, "l"), api.ErrTrieValue}, {sample.Within(sample.Null(), 1025, "l"), api.ErrTrieValue},
		{api.Value{}, api.ErrTrieValue}, {sample.Text("\xff"), api.ErrTrieValue}, {sample.Float(0x7ff0000000000000), api.ErrTrieValue},
		{sample.Map("a a", sample.Null(), sample.Null()), api.ErrTrieValue}, {api.Value{Kind: api.KindNull, Flag: true}, api.ErrTrieValue},
		{api.Value{Kind: api.KindLink}, api.ErrTrieValue}, {sample.List(api.Value{Kind: 99}), api.ErrTrieValue},
	} {
		was := standing(s)
		l, e := Set(s, root, []byte("b"), x.v)
		if e != x.e || (l == api.Link{}) != (e != api.OK) {
			t.Errorf("%d: Set: %v, %d; want %d", i, l, e, x.e)
		}
		if e != api.OK {
			if !maps.Equal(standing(s), was) {
				t.Errorf("%d: what is refused has changed something", i)
			}
			continue
		}
		if v, has, e := Get(s, l, []byte("b")); !has || e != api.OK || !sameValue(v, value.Sorted(x.v)) {
			t.Errorf("%d: Get: %v, %d", i, has, e)
		}
		agrees(t, s, l)
	}
}

// TestAlike: P14.3 and P14.8, keys with all slices alike: as many as Bucket, and one more.
func TestAlike(t *testing.T) {
	for _, c := range []api.Trie{{Width: 1, Bucket: 1, Bytes: 1}, {Width: 3, Bucket: 2, Bytes: 1}, {Width: 8, Bucket: 3, Bytes: 1}, {Width: 5, Bucket: 16, Bytes: 1}} {
		keys := alike(8, c.Bucket+1)
		s, root := filled(t, c, keys[:c.Bucket]...)
		was, last := standing(s), keys[c.Bucket]
		if l, e := Set(s, root, []byte(last), sample.Null()); l != (api.Link{}) || e != api.ErrTrieDepth || !maps.Equal(standing(s), was) {
			t.Errorf("%v: Set: %v, %d", c, l, e)
		}
		if l, e := Apply(s, root, nil, []api.Entry{{Key: []byte("a"), Value: sample.Null()}, {Key: []byte(last), Value: sample.Null()}}); l != (api.Link{}) || e != api.ErrTrieDepth || !maps.Equal(standing(s), was) {
			t.Errorf("%v: Apply: %v, %d", c, l, e)
		}
		gets(t, s, root, keys[0], 1)
		gets(t, s, root, last)
		// In the place of one that is there it may stand.
		root = sets(t, s, root, keys[0], sample.Whole(7))
		gets(t, s, root, keys[0], 7)
		l, e := Apply(s, root, byteKeys(keys[0]), []api.Entry{{Key: []byte(last), Value: sample.Whole(8)}})
		if e != api.OK {
			t.Fatalf("%v: Apply: %d", c, e)
		}
		gets(t, s, l, last, 8)
		gets(t, s, l, keys[0])
		agrees(t, s, l)
	}
}

// TestDeep: P14.3 and P14.4, a bucket that becomes a node over several levels, and back.
func TestDeep(t *testing.T) {
	for _, c := range []api.Trie{{Width: 1, Bucket: 1, Bytes: 4}, {Width: 1, Bucket: 2, Bytes: 4}, {Width: 3, Bucket: 2, Bytes: 4}, {Width: 8, Bucket: 1, Bytes: 4}} {
		keys := alike(13, c.Bucket+1)
		s, root := filled(t, c, keys[:c.Bucket]...)
		if n := s.Len(); n != c.Bucket+1 {
			t.Errorf("%v: %d blocks, and a bucket", c, n)
		}
		deep := sets(t, s, root, keys[c.Bucket], sample.Null())
		if n := s.Len() - c.Bucket - 1; n < 1+13/c.Width {
			t.Errorf("%v: %d blocks of a deep trie", c, n)
		}
		agrees(t, s, deep)
		was := standing(s)
		if l, had, e := Delete(s, deep, []byte(keys[c.Bucket])); l != root || !had || e != api.OK || !maps.Equal(standing(s), was) {
			t.Errorf("%v: Delete: %v, %d, another root: %v", c, had, e, l != root)
		}
		if l, had, e := Delete(s, deep, []byte("not there")); l != deep || had || e != api.OK || !maps.Equal(standing(s), was) {
			t.Errorf("%v: Delete: %v, %d, another root: %v", c, had, e, l != deep)
		}
	}
}

// TestForged: P14.2 to P14.7, P14.10 and P14.12, whatever stands in the store, with room and without: each call goes by the blocks that it reads.
func TestForged(t *testing.T) {
	pool := keyPool()
	for at, c := range manyWidths {
		for seed := range 60 {
			d := sample.Dice(1000*at + seed)
			n := knotOf(c, anyMap(&d, c, pool), 0)
			loosened(&d, c, n, 0, 1+d.Below(4))
			f := forger{dice: &d, blocks: map[api.Link]string{}, widths: c, chance: 1 + d.Below(12)}
			root := f.root(n)
			s := made(t, len(f.blocks)+d.Below(8))
			laidAll(s, f.blocks)
			if d.Below(2) == 0 {
				damaged(&d, s)
			}
			agrees(t, s, root)
			for range 6 {
				finds(t, s, root, []byte(pool[d.Below(len(pool))]))
			}
			for range 3 {
				gone, in := anyChange(&d, pool)
				if l, ok := applies(t, s, root, gone, in); ok {
					root = l
				}
			}
			if t.Failed() {
				t.Fatalf("%v, seed %d:%s", c, seed, shownRoot(s, root))
			}
		}
	}
}

// TestTaken: P14.10, Check is OK just of what is a map's own.
func TestTaken(t *testing.T) {
	pool := keyPool()
	good, form := 0, 0
	for at, c := range manyWidths {
		for seed := range 40 {
			d := sample.Dice(1000*at + seed)
			n := knotOf(c, anyMap(&d, c, pool), 0)
			if d.Below(2) == 0 {
				loosened(&d, c, n, 0, 6)
			}
			f := forger{dice: &d, blocks: map[api.Link]string{}, widths: c, chance: 40}
			root := f.root(n)
			s := made(t, 1000)
			laidAll(s, f.blocks)
			count, e := Check(s, root)
			m := table{}
			for _, p := range pairsOf(s, root) {
				if p.e == api.OK {
					m[p.key] = p.value
				}
			}
			// The widths of a forged root may be other ones.
			is, f2 := Widths(s, root)
			own := f2 == api.OK && mayBeMap(is, m) && trieOf(map[api.Link]string{}, is, m) == root
			if (e == api.OK) != own || e == api.OK && count != len(m) || e != api.OK && count != 0 {
				t.Errorf("%v, seed %d: Check: %d, %d; its own: %v", c, seed, count, e, own)
			}
			if e == api.OK {
				good++
			} else if e == api.ErrTrieForm {
				form++
			}
		}
	}
	if good < 100 || form < 40 {
		t.Errorf("%d are good, %d have a node that should be a bucket: too few to tell", good, form)
	}
}
