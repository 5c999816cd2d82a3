package depot

// P21.1, P21.3, P21.4: depots, and what is told of heads.

import (
	"fmt"
	"math"
	"reflect"
	"slices"
	"strings"
	"testing"

	"trellis/api"
	"trellis/archive"
	"trellis/column"
	"trellis/sample"
)

// is: a key's number, or that there is none.
func is(t *testing.T, d *Depot, name, key string, want uint64, there bool) {
	t.Helper()
	v, ok, e := d.Get(name, []byte(key))
	if e != api.OK || ok != there || v.N != want || ok && v.Kind != api.KindInt {
		t.Errorf("%s in %s: %v, %v, %d", key, name, v, ok, e)
	}
}

// notes: the notes of a head's Log, and its numbers.
func notes(t *testing.T, d *Depot, name string, most int) string {
	t.Helper()
	log, e := d.Log(name, most)
	if e != api.OK {
		t.Fatalf("Log of %s: %d", name, e)
	}
	var text []string
	for _, c := range log {
		text = append(text, fmt.Sprintf("%d %s", c.At, c.Note))
	}
	return strings.Join(text, " ")
}

// TestExamples: the chapter's examples 1 to 4 and 7.
func TestExamples(t *testing.T) {
	d := made(t, 1000)
	if names, e := does(t, d, "one", set("main", "tea", 3)); e != api.OK || !slices.Equal(names, []string{"main"}) {
		t.Errorf("one: %q, %d", names, e)
	}
	one := headOf(t, d, "main")
	if c := top(t, d, "main"); c.At != 1 || len(c.From) != 0 || c.Note != "one" {
		t.Errorf("%+v", c)
	}
	changes(t, d, "", set("main", "tea", 3))
	if names, e := does(t, d, "two", set("main", "milk", 1), set("side", "a", 2)); e != api.OK || !slices.Equal(names, []string{"main", "side"}) {
		t.Errorf("two: %q, %d", names, e)
	}
	if text := notes(t, d, "main", 9); text != "2 two 1 one" || top(t, d, "main").From[0] != one {
		t.Errorf("Log: %s", text)
	}
	refuses(t, d, api.ErrDepotHead, set("main", "x", 1), drop("none"))
	is(t, d, "main", "x", 0, false)

	changes(t, d, "work", branch("work", "main"))
	if headOf(t, d, "work") != headOf(t, d, "main") {
		t.Errorf("a branch has another commit")
	}
	changes(t, d, "work", set("work", "tea", 4))
	changes(t, d, "main", set("main", "tea", 5))
	refuses(t, d, api.ErrDepotClash, merge("main", "work"))
	changes(t, d, "main", theirs("main", "work"))
	is(t, d, "main", "tea", 4, true)
	if c := top(t, d, "main"); len(c.From) != 2 || c.At != 4 {
		t.Errorf("a merge: %+v", c)
	}
	changes(t, d, "", merge("main", "work"))

	changes(t, d, "main", row("main", "row", 1, 2))
	v, ok, e := d.Get("main", []byte("row"))
	if n, f := column.Len(d.Store(), v.Link); !ok || e != api.OK || v.Kind != api.KindLink || n != 2 || f != api.OK {
		t.Errorf("row: %v, %v, %d; %d samples, %d", v, ok, e, n, f)
	}
	refuses(t, d, api.ErrDepotRow, row("main", "tea", 1))
	odd := set("main", "k", 1)
	odd.Other = "x"
	refuses(t, d, api.ErrDepotOp, odd)
	refuses(t, d, api.ErrDepotName, set("", "k", 1))

	was := headOf(t, d, "main")
	changes(t, d, "main new", branch("new", "main"), drop("main"))
	if headOf(t, d, "new") != was {
		t.Errorf("the branch of a head that was dropped has another commit")
	}
	changes(t, d, "new", drop("new"), set("new", "k", 1))
	if c := top(t, d, "new"); len(c.From) != 0 || c.At != 1 {
		t.Errorf("made again: %+v", c)
	}
}

// TestSpoiltExample: the chapter's example 5.
func TestSpoiltExample(t *testing.T) {
	d := made(t, 1000)
	changes(t, d, "main", set("main", "tea", 3))
	changes(t, d, "other", set("other", "a", 1))
	changes(t, d, "other", drop("other"))
	for _, want := range []int{2, 0} {
		if n, e := sweeps(t, d); n != want || e != api.OK {
			t.Errorf("Sweep: %d, %d; want %d", n, e, want)
		}
	}
	root := top(t, d, "main").Root
	d.Store().Delete(root)
	if _, _, e := d.Get("main", []byte("tea")); e != api.ErrStoreNone {
		t.Errorf("Get: %d", e)
	}
	refuses(t, d, api.ErrStoreNone, set("main", "k", 1))
	if n, e := checks(t, d); n != 0 || e != api.ErrStoreNone {
		t.Errorf("Check: %d, %d", n, e)
	}
	if n, e := sweeps(t, d); n != 0 || e != api.OK {
		t.Errorf("Sweep: %d, %d", n, e)
	}
	other := twin(d)
	changes(t, other, "main", drop("main"))
	force(d.Store(), root)
	if _, _, e := d.Get("main", []byte("tea")); e != api.ErrStoreBad {
		t.Errorf("Get: %d", e)
	}
	if n, e := sweeps(t, d); n != 0 || e != api.ErrStoreBad {
		t.Errorf("Sweep: %d, %d", n, e)
	}
}

// TestCarriedExample: the chapter's example 6.
func TestCarriedExample(t *testing.T) {
	d, other := made(t, 1000), made(t, 1000)
	changes(t, d, "main", set("main", "tea", 3))
	changes(t, d, "main", set("main", "milk", 1))
	b, e := d.Export("main")
	a, f := archive.Read(b)
	if e != api.OK || f.Code != api.OK || len(a.Blocks) != 4 {
		t.Fatalf("Export: %d; %d blocks, %v", e, len(a.Blocks), f)
	}
	if n, f := imports(t, other, "main", b); n != 4 || f.Code != api.OK {
		t.Errorf("Import: %d, %v", n, f)
	}
	if n, f := imports(t, other, "main", b); n != 0 || f != (api.Fault{Code: api.ErrDepotHead}) {
		t.Errorf("Import again: %d, %v", n, f)
	}
	if n, f := imports(t, other, "two", b); n != 0 || f.Code != api.OK {
		t.Errorf("Import by another name: %d, %v", n, f)
	}
	_, want := archive.Read(b[:len(b)-1])
	if n, f := imports(t, other, "x", b[:len(b)-1]); n != 0 || f != want || f.Code == api.OK {
		t.Errorf("Import of less: %d, %v; want %v", n, f, want)
	}
}

// TestNew: P21.1, which room and which widths may be, and which error counts.
func TestNew(t *testing.T) {
	good := api.Trie{Width: 1, Bucket: 1, Bytes: 1}
	rooms := map[int]api.Errno{math.MinInt: api.ErrStoreRoom, -1: api.ErrStoreRoom, 0: api.ErrStoreRoom, 1: api.OK, api.MaxBlocks: api.OK, api.MaxBlocks + 1: api.ErrStoreRoom, math.MaxInt: api.ErrStoreRoom}
	tries := map[api.Trie]api.Errno{
		good: api.OK, {Width: 8, Bucket: 16, Bytes: 32}: api.OK, {}: api.ErrTrieConfig,
		{Width: 0, Bucket: 1, Bytes: 1}: api.ErrTrieConfig, {Width: 9, Bucket: 1, Bytes: 2}: api.ErrTrieConfig,
		{Width: 1, Bucket: 0, Bytes: 1}: api.ErrTrieConfig, {Width: 1, Bucket: 17, Bytes: 1}: api.ErrTrieConfig,
		{Width: 1, Bucket: 1, Bytes: 0}: api.ErrTrieConfig, {Width: 1, Bucket: 1, Bytes: 33}: api.ErrTrieConfig,
	}
	widths := map[int]api.Errno{math.MinInt: api.ErrColumnWidth, -1: api.ErrColumnWidth, 0: api.ErrColumnWidth, 1: api.OK, 8: api.OK, 9: api.ErrColumnWidth, math.MaxInt: api.ErrColumnWidth}
	for room, first := range rooms {
		for c, second := range tries {
			for width, third := range widths {
				want := first
				if want == api.OK {
					want = second
				}
				if want == api.OK {
					want = third
				}
				d, e := New(room, c, width)
				if e != want || (d == nil) != (want != api.OK) {
					t.Errorf("New(%d, %v, %d): %v, %d; want %d", room, c, width, d, e, want)
				}
				if d != nil && (d.Heads() != nil || d.Store().Len() != 0 || d.Store().Room() != room) {
					t.Errorf("New(%d, %v, %d): %q, %d blocks, room %d", room, c, width, d.Heads(), d.Store().Len(), d.Store().Room())
				}
			}
		}
	}
}

// TestWidths: the widths that were asked for are those of the tries and of the columns that ops make.
func TestWidths(t *testing.T) {
	for _, c := range []api.Trie{wide, narrow, {Width: 8, Bucket: 16, Bytes: 32}} {
		for _, width := range []int{1, 4, 8} {
			d := madeOf(t, 1000, c, width)
			changes(t, d, "a b", set("a", "b", 2), row("b", "row", 1, 2, 3))
			if root := top(t, d, "a").Root; root != trieOf(t, d.Store().Copy(), c, "b2") {
				t.Errorf("%v: another trie", c)
			}
			v, _, _ := d.Get("b", []byte("row"))
			if n, e := column.Width(d.Store(), v.Link); n != width || e != api.OK {
				t.Errorf("the column's width: %d, %d; want %d", n, e, width)
			}
		}
	}
}

// TestStore: P21.1, the store is the depot's own: what is done to it is seen, and what the depot does stands there.
func TestStore(t *testing.T) {
	d := made(t, 1000)
	s := d.Store()
	changes(t, d, "main", set("main", "tea", 3))
	l := headOf(t, d, "main")
	if s != d.Store() || s.Len() != 2 || !s.Has(l) {
		t.Errorf("%d blocks", s.Len())
	}
	b := blockOf(t, d, l)
	s.Delete(l)
	if _, e := d.Commit(l); e != api.ErrStoreNone {
		t.Errorf("lost: %d", e)
	}
	force(s, l)
	if _, e := d.Commit(l); e != api.ErrStoreBad {
		t.Errorf("forced: %d", e)
	}
	lays(s, l, b)
	if c, e := d.Commit(l); e != api.OK || c.At != 1 {
		t.Errorf("mended: %v, %d", c, e)
	}
	other := put(s, commitMap(7, nil, "beside", l))
	if c, e := d.Commit(other); e != api.OK || c.At != 7 {
		t.Errorf("a commit that was laid there: %v, %d", c, e)
	}
}

// TestHeads: P21.3, names by their bytes, and the commits of heads.
func TestHeads(t *testing.T) {
	d := made(t, 1000)
	if d.Heads() != nil {
		t.Errorf("there are heads: %q", d.Heads())
	}
	var want []string
	for _, name := range []string{"b", "aa", "B", "a", "\u00e4", "\x00", " ", "\U0001f600", "\ufffd", strings.Repeat("n", 64), strings.Repeat("\u00e4", 32), "a\x00"} {
		changes(t, d, name, set(name, "k", uint64(len(name))))
		want = append(want, name)
		slices.Sort(want)
		if got := d.Heads(); !slices.Equal(got, want) {
			t.Errorf("Heads: %q; want %q", got, want)
		}
		l, is := d.Head(name)
		if c, e := d.Commit(l); !is || e != api.OK || c.At != 1 {
			t.Errorf("%q: %v, %v; %v, %d", name, l, is, c, e)
		}
	}
	for _, name := range []string{"", "c", "A", "nothing", "\xff", strings.Repeat("n", 65)} {
		if l, is := d.Head(name); is || l != (api.Link{}) {
			t.Errorf("%q: %v, %v", name, l, is)
		}
	}
}

// TestAsked: P21.4, of heads that are there and that are not, keys that are there, that are not, that do not fit.
func TestAsked(t *testing.T) {
	d := made(t, 1000)
	changes(t, d, "a b", set("a", "x", 1), set("a", "y", 2), row("a", "z", 1), set("b", "x", 3))
	changes(t, d, "a", del("a", "y"))
	for _, name := range []string{"a", "b", "c", "", "\xff"} {
		for _, key := range []string{"x", "y", "z", "", strings.Repeat("k", api.MaxKey), strings.Repeat("k", api.MaxKey+1)} {
			asks(t, d, name, key)
		}
	}
	is(t, d, "a", "x", 1, true)
	is(t, d, "b", "x", 3, true)
	is(t, d, "a", "y", 0, false)
	long := []byte(strings.Repeat("k", api.MaxKey+1))
	for name, want := range map[string]api.Errno{"a": api.ErrTrieKey, "c": api.ErrDepotHead} {
		if v, is, e := d.Get(name, long); v.Kind != 0 || is || e != want {
			t.Errorf("Get of a long key in %s: %v, %v, %d", name, v, is, e)
		}
	}
	if l, e := d.Entries("c"); l != nil || e != api.ErrDepotHead {
		t.Errorf("Entries: %v, %d", l, e)
	}
	if l, e := d.Log("c", 0); l != nil || e != api.ErrDepotHead {
		t.Errorf("Log of 0 of no head: %v, %d", l, e)
	}
	if text := entries(t, d, "b"); text != `"x" 03` {
		t.Errorf("Entries: %s", text)
	}
}

// TestAskedSpoilt: P21.4, whatever block is lost or forced: the commit's, the root's, a node's.
func TestAskedSpoilt(t *testing.T) {
	d := madeOf(t, 1000, narrow, 1)
	var ops []api.Op
	for i := range 12 {
		ops = append(ops, set("main", fmt.Sprint(i), uint64(i)))
	}
	changes(t, d, "main", ops...)
	changes(t, d, "main", set("main", "0", 9))
	told := map[api.Errno]int{}
	for _, l := range d.Store().Links() {
		for _, spoil := range []func(*Depot){func(d *Depot) { d.Store().Delete(l) }, func(d *Depot) { force(d.Store(), l) }} {
			x := twin(d)
			spoil(x)
			for i := range 12 {
				asks(t, x, "main", fmt.Sprint(i))
				_, _, e := x.Get("main", fmt.Append(nil, i))
				told[e]++
			}
			checks(t, x)
			sweeps(t, x)
		}
	}
	if len(told) != 3 || told[api.ErrStoreNone] < 20 || told[api.ErrStoreBad] < 20 {
		t.Errorf("%v", told)
	}
}

// TestLog: P21.4, a Log of none, one, as many as there are, more; by the first parents alone, as long as they are asked for.
func TestLog(t *testing.T) {
	d := made(t, 1000)
	for i := range 5 {
		if _, e := does(t, d, fmt.Sprint("m", i), set("main", "k", uint64(i))); e != api.OK {
			t.Fatal(e)
		}
	}
	all := "5 m4 4 m3 3 m2 2 m1 1 m0"
	for most, want := range map[int]string{math.MinInt: "", -1: "", 0: "", 1: "5 m4", 4: "5 m4 4 m3 3 m2 2 m1", 5: all, 6: all, math.MaxInt: all} {
		if text := notes(t, d, "main", most); text != want {
			t.Errorf("Log of %d: %q; want %q", most, text, want)
		}
	}
	does(t, d, "side", set("side", "x", 1))
	does(t, d, "merge", merge("side", "main"))
	if text := notes(t, d, "side", 9); text != "6 merge 1 side" {
		t.Errorf("Log of a merge: %q", text)
	}
	log, _ := d.Log("main", 9)
	for i := range 4 {
		x := twin(d)
		x.Store().Delete(log[i].From[0])
		for most := range 9 {
			want, e := api.OK, api.OK
			if most > i+1 {
				want = api.ErrStoreNone
			}
			l, e := x.Log("main", most)
			if e != want || e == api.OK && len(l) != most || e != api.OK && l != nil {
				t.Errorf("Log of %d, the one behind %d is lost: %v, %d", most, i, l, e)
			}
		}
	}
}

// TestOwn: R2, what is told is the caller's own: writing into it changes nothing.
func TestOwn(t *testing.T) {
	d := made(t, 1000)
	v := sample.Map("a b", sample.List(sample.Text("x")), api.Value{Kind: api.KindBytes, Bytes: []byte("bytes")})
	changes(t, d, "a main", setTo("main", "k", v), set("a", "x", 1))
	changes(t, d, "main", set("main", "l", 2), merge("main", "a"))
	was, b := asks(t, d, "main", "k"), state(d)
	clear(d.Heads())
	got, _, _ := d.Get("main", []byte("k"))
	list, _ := d.Entries("main")
	values := []api.Value{got}
	for _, x := range list {
		values = append(values, api.Value{Bytes: x.Key}, x.Value)
	}
	if !sample.Apart(values...) {
		t.Errorf("two lists have memory in common")
	}
	log, _ := d.Log("main", 5)
	more, _ := d.Log("main", 5)
	c := top(t, d, "main")
	for _, l := range [][]api.Link{log[0].From, log[1].From, c.From} {
		clear(l[:cap(l)])
	}
	clear(log[:cap(log)])
	if len(more[0].From) != 2 || more[0].From[0] == (api.Link{}) {
		t.Errorf("one Log has changed another: %v", more)
	}
	file, _ := d.Export("main")
	clear(file[:cap(file)])
	names, _ := d.Do("", set("z", "x", 1), drop("z"), set("y", "x", 1))
	clear(names[:cap(names)])
	d.Do("", drop("y"))
	d.Sweep()
	if text := asks(t, d, "main", "k"); text != was || state(d) != b {
		t.Errorf("what was told has been changed from outside")
	}
}

// TestTwice: R6, what is asked twice is answered alike, and twins answer alike.
func TestTwice(t *testing.T) {
	d := made(t, 1000)
	changes(t, d, "main", set("main", "a", 1), row("main", "r", 1, 2))
	x := twin(d)
	if a, b, c := asks(t, d, "main", "a"), asks(t, d, "main", "a"), asks(t, x, "main", "a"); a != b || a != c {
		t.Errorf("%s\n%s\n%s", a, b, c)
	}
	if !reflect.DeepEqual(d.Heads(), x.Heads()) {
		t.Errorf("%q, %q", d.Heads(), x.Heads())
	}
}
