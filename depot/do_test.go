package depot

// P21.2, P21.9, P21.10: transactions: what ops do, and what refuses them.

import (
	"bytes"
	"fmt"
	"math"
	"slices"
	"strings"
	"testing"

	"trellis/api"
	"trellis/column"
	"trellis/sample"
)

// sets: so many ops, each of which lays another key into a head.
func sets(head string, n int) []api.Op {
	var ops []api.Op
	for i := range n {
		ops = append(ops, set(head, fmt.Sprint("key", i), uint64(i)))
	}
	return ops
}

// full: a depot with so many heads, of one commit.
func full(t *testing.T, heads int) *Depot {
	t.Helper()
	d := made(t, 1000)
	changes(t, d, "head0", set("head0", "k", 1))
	var ops []api.Op
	for i := 1; i < heads; i++ {
		ops = append(ops, branch(fmt.Sprint("head", i), "head0"))
	}
	if names, e := does(t, d, "", ops...); e != api.OK || len(names) != heads-1 || len(d.Heads()) != heads {
		t.Fatalf("%d heads: %d, %d", heads, len(d.Heads()), e)
	}
	return d
}

// TestOps: no op, one, MaxOps and one more, whatever it is.
func TestOps(t *testing.T) {
	d := made(t, 1000)
	changes(t, d, "")
	changes(t, d, "main", set("main", "k", 1))
	changes(t, d, "")
	changes(t, d, "main", sets("main", api.MaxOps)...)
	if l, e := d.Entries("main"); len(l) != 1+api.MaxOps || e != api.OK {
		t.Errorf("%d entries, %d", len(l), e)
	}
	refuses(t, d, api.ErrDepotFull, sets("main", api.MaxOps+1)...)
	refuses(t, d, api.ErrDepotFull, make([]api.Op, api.MaxOps+1)...)
	refuses(t, d, api.ErrDepotOp, make([]api.Op, api.MaxOps)...)
	names, e := d.Do(strings.Repeat("n", api.MaxNote+1), make([]api.Op, api.MaxOps+1)...)
	if names != nil || e != api.ErrDepotNote {
		t.Errorf("a wrong note, too many ops: %q, %d", names, e)
	}
}

// TestNotes: notes that may be, which their commits tell, and others, ahead of all else.
func TestNotes(t *testing.T) {
	d := made(t, 1000)
	for i, note := range []string{"", "a", "\x00", "\u00e4\U0010ffff", "\ufffd", "\ud7ff\ue000", strings.Repeat("n", api.MaxNote), strings.Repeat("\U0001f600", api.MaxNote/4)} {
		if names, e := does(t, d, note, set("main", "k", uint64(i))); len(names) != 1 || e != api.OK || top(t, d, "main").Note != note {
			t.Errorf("%q: %q, %d; %+v", note, names, e, top(t, d, "main"))
		}
	}
	for _, note := range []string{strings.Repeat("n", api.MaxNote+1), "a" + strings.Repeat("\u00e4", api.MaxNote/2), "\xff", "a\x80", "\xc0\x80", "\xed\xa0\x80", "\xe2\x82", "\xf4\x90\x80\x80"} {
		for _, ops := range [][]api.Op{nil, {set("main", "k", 99)}, {{}}, make([]api.Op, 65), {set("", "k", 1)}, {drop("none")}} {
			if names, e := does(t, d, note, ops...); names != nil || e != api.ErrDepotNote {
				t.Errorf("%q: %q, %d", note, names, e)
			}
		}
	}
}

// TestNames: names that may be and others, as Head and as Other, behind ErrDepotOp and ahead of all else.
func TestNames(t *testing.T) {
	good := []string{"a", " ", "\x00", "\ufffd", "\u00e4\U0010ffff", strings.Repeat("n", api.MaxName), strings.Repeat("\U0001f600", api.MaxName/4)}
	bad := []string{"", strings.Repeat("n", api.MaxName+1), "a" + strings.Repeat("\u00e4", api.MaxName/2), "\xff", "a\x80", "\xc0\x80", "\xed\xa0\x80"}
	d := full(t, api.MaxHeads)
	for _, name := range bad {
		for _, x := range []api.Op{set(name, "k", 1), setTo(name, strings.Repeat("k", 9999), api.Value{}), del(name, "k"), row(name, "k", 1), branch(name, "head1"), branch(name, "none"), drop(name), merge(name, "head1"), merge(name, name)} {
			refuses(t, d, api.ErrDepotName, x)
			refuses(t, d, api.ErrDepotHead, drop("none"), x)
			x.Other = "x"
			if x.Kind != api.OpBranch && x.Kind != api.OpMerge {
				refuses(t, d, api.ErrDepotOp, x)
			}
		}
		refuses(t, d, api.ErrDepotName, branch("head1", name))
		refuses(t, d, api.ErrDepotName, branch("new", name))
		refuses(t, d, api.ErrDepotName, merge("head1", name))
		refuses(t, d, api.ErrDepotName, merge("none", name))
		if _, is := d.Head(name); is {
			t.Errorf("there is a head %q", name)
		}
	}
	for _, name := range good {
		d := made(t, 1000)
		changes(t, d, name, set(name, "k", 1))
		changes(t, d, name, drop(name))
		changes(t, d, name, row(name, "k", 1))
		changes(t, d, "x", branch("x", name))
		changes(t, d, name, set(name, "l", 1))
		changes(t, d, "x", merge("x", name))
		changes(t, d, name, del(name, "k"))
	}
}

// TestKinds: ErrDepotOp, ahead of all else that an op may be refused with: a kind that is none, a field that the kind does not use, Ours and Theirs both.
func TestKinds(t *testing.T) {
	d := made(t, 1000)
	changes(t, d, "main", set("main", "k", 1))
	changes(t, d, "side", branch("side", "main"))
	changes(t, d, "side", set("side", "k", 2))
	changes(t, d, "main", set("main", "k", 3))
	fields := map[string]func(*api.Op){
		"Other": func(x *api.Op) { x.Other = "side" }, "Key": func(x *api.Op) { x.Key = []byte{0} },
		"Samples": func(x *api.Op) { x.Samples = []float32{0} }, "Ours": func(x *api.Op) { x.Ours = true }, "Theirs": func(x *api.Op) { x.Theirs = true },
		"Value.Kind": func(x *api.Op) { x.Value.Kind = api.KindNull }, "Value.Flag": func(x *api.Op) { x.Value.Flag = true },
		"Value.Neg": func(x *api.Op) { x.Value.Neg = true }, "Value.N": func(x *api.Op) { x.Value.N = 1 }, "Value.Bits": func(x *api.Op) { x.Value.Bits = 1 },
		"Value.Text": func(x *api.Op) { x.Value.Text = "x" }, "Value.Bytes": func(x *api.Op) { x.Value.Bytes = []byte{0} },
		"Value.Version": func(x *api.Op) { x.Value.Link.Version = 1 }, "Value.Codec": func(x *api.Op) { x.Value.Link.Codec = 1 },
		"Value.Hash": func(x *api.Op) { x.Value.Link.Hash = 1 }, "Value.Digest": func(x *api.Op) { x.Value.Link.Digest = "x" },
		"Value.Keys": func(x *api.Op) { x.Value.Keys = []string{""} }, "Value.Items": func(x *api.Op) { x.Value.Items = []api.Value{{}} },
	}
	used := map[int]string{api.OpSet: "Key Value", api.OpDelete: "Key", api.OpAppend: "Key Samples", api.OpBranch: "Other", api.OpDrop: "", api.OpMerge: "Other Ours Theirs"}
	right := []api.Op{set("main", "x", 1), del("main", "k"), row("main", "r", 1), branch("new", "main"), drop("main"), ours("main", "side"), theirs("main", "side")}
	for _, x := range right {
		for what, change := range fields {
			y := x
			change(&y)
			name, _, _ := strings.Cut(what, ".")
			if slices.Contains(strings.Fields(used[x.Kind]), name) {
				continue
			}
			refuses(t, d, api.ErrDepotOp, y)
			refuses(t, d, api.ErrDepotHead, drop("none"), y)
			for _, wrong := range []string{"", "\xff", "none"} {
				y.Head = wrong
				refuses(t, d, api.ErrDepotOp, y)
			}
		}
		for _, kind := range []int{api.OpNone, -1, api.OpMerge + 1, math.MinInt, math.MaxInt} {
			y := api.Op{Kind: kind, Head: x.Head}
			refuses(t, d, api.ErrDepotOp, y)
			y = x
			y.Kind = kind
			refuses(t, d, api.ErrDepotOp, y)
		}
		does(t, twin(d), "", x)
	}
	both := theirs("main", "side")
	both.Ours = true
	refuses(t, d, api.ErrDepotOp, both)
	both.Head, both.Other = "", ""
	refuses(t, d, api.ErrDepotOp, both)
	empty := api.Op{Kind: api.OpDrop, Head: "main", Key: []byte{}, Samples: []float32{}, Value: api.Value{Bytes: []byte{}, Keys: []string{}, Items: []api.Value{}}}
	if names, e := d.Do("", empty); len(names) != 1 || e != api.OK {
		t.Errorf("empty lists: %q, %d", names, e)
	}
}

// TestSet: sets of values of each kind, of one key twice, of a value that is there, beside a delete; keys and values that do not fit.
func TestSet(t *testing.T) {
	d := made(t, 5000)
	for i, v := range sample.Leaves() {
		changes(t, d, "main", setTo("main", "k", v), setTo("main", fmt.Sprint(i), v))
	}
	changes(t, d, "main", setTo("main", "", sample.Map("b a", sample.Whole(1), sample.Null())))
	changes(t, d, "", setTo("main", "", sample.Map("a b", sample.Null(), sample.Whole(1))))
	changes(t, d, "main", set("main", "k", 1), set("main", "k", 2), set("main", "k", 3))
	is(t, d, "main", "k", 3, true)
	changes(t, d, "", set("main", "k", 1), set("main", "k", 3))
	changes(t, d, "", del("main", "k"), set("main", "k", 3))
	changes(t, d, "", set("main", "new", 1), del("main", "new"))
	changes(t, d, "main", set("main", "new", 1), del("main", "k"))
	changes(t, d, "main", del("main", "new"), set("main", "k", 3))
	long := strings.Repeat("k", api.MaxKey)
	changes(t, d, "main", set("main", long, 1))
	refuses(t, d, api.ErrTrieKey, set("main", long+"k", 1))
	refuses(t, d, api.ErrTrieKey, set("new", long+"k", 1))
	refuses(t, d, api.ErrTrieKey, setTo("main", long+"k", api.Value{}))
	for _, v := range []api.Value{{}, sample.Text("\xff"), sample.Text(strings.Repeat("x", 4096)), sample.Within(sample.Null(), 513, "l"), {Kind: api.KindInt, Flag: true}, {Kind: api.KindLink}} {
		refuses(t, d, api.ErrTrieValue, setTo("main", "k", v))
		refuses(t, d, api.ErrTrieValue, setTo("new", "k", v))
	}
	// Two keys whose digests begin with one byte.
	d = madeOf(t, 100, api.Trie{Width: 8, Bucket: 1, Bytes: 1}, 1)
	var refused []api.Errno
	for i := range 30 {
		_, e := does(t, d, "", set("main", fmt.Sprint(i), 1))
		refused = append(refused, e)
	}
	if !slices.Contains(refused, api.ErrTrieDepth) || !slices.Contains(refused, api.OK) {
		t.Errorf("%v", refused)
	}
}

// TestDelete: a key that is there, one that is not, one that does not fit; of a head that is not there.
func TestDelete(t *testing.T) {
	d := made(t, 1000)
	changes(t, d, "main", set("main", "a", 1), set("main", "b", 2))
	changes(t, d, "", del("main", "c"))
	changes(t, d, "main", del("main", "a"))
	changes(t, d, "main", del("main", "b"), del("main", "b"))
	if l, e := d.Entries("main"); len(l) != 0 || e != api.OK {
		t.Errorf("%v, %d", l, e)
	}
	long := strings.Repeat("k", api.MaxKey+1)
	refuses(t, d, api.ErrTrieKey, del("main", long))
	refuses(t, d, api.ErrDepotHead, del("none", "a"))
	refuses(t, d, api.ErrDepotHead, del("none", long))
	changes(t, d, "none", set("none", "a", 1), del("none", "a"))
	if c := top(t, d, "none"); c.At != 1 || c.Root != top(t, d, "main").Root {
		t.Errorf("%+v", c)
	}
	refuses(t, d, api.ErrDepotHead, drop("main"), del("main", "a"))
}

// samples: those of a key's column.
func samples(t *testing.T, d *Depot, name, key string) []float32 {
	t.Helper()
	v, is, e := d.Get(name, []byte(key))
	n, f := column.Len(d.Store(), v.Link)
	if !is || e != api.OK || v.Kind != api.KindLink || f != api.OK {
		t.Fatalf("%s in %s: %v, %v, %d, %d", key, name, v, is, e, f)
	}
	l, e := column.Slice(d.Store(), v.Link, 0, n)
	if e != api.OK {
		t.Fatal(e)
	}
	return l
}

// TestAppend: a column that is made, that is there, of another width; no samples; what is no column's link, what is no link; samples that may not be; which error counts.
func TestAppend(t *testing.T) {
	d := made(t, 5000)
	long, none, inf := strings.Repeat("k", api.MaxKey+1), float32(math.NaN()), float32(math.Inf(1))
	changes(t, d, "main", row("main", "r", 1, 2))
	changes(t, d, "main", row("main", "r", 3), row("main", "r", 4, 5), row("main", "s"))
	if l := samples(t, d, "main", "r"); !slices.Equal(l, []float32{1, 2, 3, 4, 5}) || samples(t, d, "main", "s") != nil {
		t.Errorf("%v", l)
	}
	changes(t, d, "", row("main", "r"), row("main", "s"))
	changes(t, d, "new", row("new", "r", 1, 2, 3, 4, 5))
	a, _, _ := d.Get("main", []byte("r"))
	if b, _, _ := d.Get("new", []byte("r")); a.Link != b.Link {
		t.Errorf("one row has two columns")
	}
	other, e := column.New(d.Store(), 1)
	if e != api.OK {
		t.Fatal(e)
	}
	changes(t, d, "main", setTo("main", "o", linked(other)))
	changes(t, d, "main", row("main", "o", 7, 8, 9))
	v, _, _ := d.Get("main", []byte("o"))
	if n, _ := column.Width(d.Store(), v.Link); n != 1 || len(samples(t, d, "main", "o")) != 3 {
		t.Errorf("a column's width was not kept: %d", n)
	}
	raw := lays(d.Store(), under(api.CodecRaw, []byte("raw")), []byte("raw"))
	changes(t, d, "main", set("main", "n", 1), setTo("main", "raw", linked(raw)), setTo("main", "trie", linked(top(t, d, "main").Root)), setTo("main", "lost", linked(lost("x"))), setTo("main", "list", naming(a.Link)))
	for _, bad := range [][]float32{{none}, {inf}, {-inf}, {1, 2, none}} {
		refuses(t, d, api.ErrColumnSample, row("main", "r", bad...))
		refuses(t, d, api.ErrColumnSample, row("main", "x", bad...))
		refuses(t, d, api.ErrColumnSample, row("x", "x", bad...))
		refuses(t, d, api.ErrColumnSample, row("main", "lost", bad...))
		refuses(t, d, api.ErrDepotRow, row("main", "n", bad...))
		refuses(t, d, api.ErrTrieKey, row("main", long, bad...))
	}
	refuses(t, d, api.ErrDepotRow, row("main", "n", 1))
	refuses(t, d, api.ErrDepotRow, row("main", "n"))
	refuses(t, d, api.ErrDepotRow, row("main", "list", 1))
	refuses(t, d, api.ErrColumnNode, row("main", "raw", 1))
	refuses(t, d, api.ErrColumnNode, row("main", "trie"))
	refuses(t, d, api.ErrStoreNone, row("main", "lost", 1))
	refuses(t, d, api.ErrTrieKey, row("x", long, 1))
	d.Store().Delete(top(t, d, "main").Root)
	refuses(t, d, api.ErrStoreNone, row("main", "r", none))
	refuses(t, d, api.ErrTrieKey, row("main", long, none))
}

// TestFullColumn: as many samples as a column may have, and one more.
func TestFullColumn(t *testing.T) {
	d := madeOf(t, api.MaxBlocks, wide, 8)
	if _, e := d.Do("", row("main", "r", make([]float32, api.MaxSamples)...)); e != api.OK {
		t.Fatal(e)
	}
	was := top(t, d, "main")
	if names, e := d.Do("", row("main", "r", 1)); names != nil || e != api.ErrColumnFull || top(t, d, "main").At != was.At {
		t.Errorf("one more: %q, %d", names, e)
	}
	if names, e := d.Do("", row("main", "s", make([]float32, api.MaxSamples+1)...)); names != nil || e != api.ErrColumnFull {
		t.Errorf("one more at once: %q, %d", names, e)
	}
	if names, e := d.Do("", row("main", "r")); names != nil || e != api.OK {
		t.Errorf("none more: %q, %d", names, e)
	}
}

// TestBranch: of a head as it was ahead of the Do, whatever became of it; of none, over one that there is.
func TestBranch(t *testing.T) {
	d := made(t, 1000)
	changes(t, d, "main", set("main", "k", 1))
	was := headOf(t, d, "main")
	changes(t, d, "a", branch("a", "main"))
	changes(t, d, "b main", set("main", "k", 2), branch("b", "main"))
	changes(t, d, "c main", drop("main"), branch("c", "main"))
	for _, name := range []string{"a", "b"} {
		if headOf(t, d, name) != was {
			t.Errorf("%s has another commit", name)
		}
	}
	is(t, d, "c", "k", 2, true)
	refuses(t, d, api.ErrDepotHead, branch("x", "main"))
	refuses(t, d, api.ErrDepotHead, branch("a", "b"))
	refuses(t, d, api.ErrDepotHead, branch("a", "a"))
	refuses(t, d, api.ErrDepotHead, branch("x", "x"))
	refuses(t, d, api.ErrDepotHead, set("x", "k", 1), branch("y", "x"))
	refuses(t, d, api.ErrDepotHead, branch("x", "a"), branch("y", "x"))
	refuses(t, d, api.ErrDepotHead, set("x", "k", 1), branch("x", "a"))
	changes(t, d, "", drop("a"), branch("a", "a"))
	changes(t, d, "a", drop("a"), branch("a", "c"))
	changes(t, d, "", drop("a"), set("a", "k", 1), drop("a"), branch("a", "c"))
	changes(t, d, "", branch("x", "a"), drop("x"))
	changes(t, d, "x", branch("x", "a"), set("x", "k", 3))
	if c := top(t, d, "x"); c.At != 3 || len(c.From) != 1 || c.From[0] != headOf(t, d, "a") {
		t.Errorf("a branch that was changed at once: %+v", c)
	}
	changes(t, d, "y", branch("y", "a"), set("y", "k", 2))
	if headOf(t, d, "y") != headOf(t, d, "a") {
		t.Errorf("a branch to which nothing was done has another commit")
	}
	// No commit is read for a branch.
	d.Store().Delete(headOf(t, d, "a"))
	changes(t, d, "z", branch("z", "a"))
	refuses(t, d, api.ErrStoreNone, set("z", "k", 1))
}

// TestDrop: heads that are there, that are not, that were made, that are made again, with nothing of the old one.
func TestDrop(t *testing.T) {
	d := made(t, 1000)
	refuses(t, d, api.ErrDepotHead, drop("main"))
	changes(t, d, "", set("main", "k", 1), drop("main"))
	changes(t, d, "main", set("main", "k", 1), set("main", "l", 1))
	was := headOf(t, d, "main")
	refuses(t, d, api.ErrDepotHead, drop("main"), drop("main"))
	changes(t, d, "main", set("main", "m", 1), drop("main"), set("main", "n", 2))
	if text := entries(t, d, "main"); text != `"n" 02` || top(t, d, "main").At != 1 {
		t.Errorf("%s; %+v", text, top(t, d, "main"))
	}
	changes(t, d, "main", drop("main"))
	if d.Heads() != nil {
		t.Errorf("%q", d.Heads())
	}
	changes(t, d, "main", set("main", "k", 1), set("main", "l", 1))
	if headOf(t, d, "main") != was {
		t.Errorf("the same head, made again, has another commit")
	}
	changes(t, d, "", drop("main"), set("main", "l", 1), set("main", "k", 1))
	changes(t, d, "", drop("main"), branch("main", "main"))
	changes(t, d, "", set("main", "x", 1), drop("main"), branch("main", "main"))
	d.Store().Delete(was)
	changes(t, d, "", drop("main"), branch("main", "main"))
	changes(t, d, "", drop("main"), set("main", "l", 1), set("main", "k", 1))
	if _, e := d.Commit(was); e != api.OK {
		t.Errorf("the commit that was made again was not added: %d", e)
	}
	d.Store().Delete(was)
	changes(t, d, "main", drop("main"))
}

// TestMaxHeads: as many heads as there may be, by each op that makes one; one more; one more where another was dropped ahead.
func TestMaxHeads(t *testing.T) {
	makes := map[string]func(name string) api.Op{
		"set": func(name string) api.Op { return set(name, "k", 1) }, "append": func(name string) api.Op { return row(name, "k", 1) },
		"branch": func(name string) api.Op { return branch(name, "head0") },
	}
	for what, op := range makes {
		d := full(t, api.MaxHeads-1)
		refuses(t, d, api.ErrDepotFull, op("last"), op("more"))
		changes(t, d, "last", op("last"))
		refuses(t, d, api.ErrDepotFull, op("more"))
		refuses(t, d, api.ErrDepotFull, op("more"), drop("last"))
		changes(t, d, "last more", drop("last"), op("more"))
		refuses(t, d, api.ErrDepotFull, drop("more"), op("more"), op("last"))
		changes(t, d, "", set("head0", "k", 1))
		changes(t, d, "head0", set("head0", "k", 2))
		changes(t, d, "head0", row("head0", "r", 2))
		refuses(t, d, api.ErrDepotHead, branch("head1", "head0"))
		refuses(t, d, api.ErrDepotHead, branch("x", "none"))
		refuses(t, d, api.ErrDepotHead, del("x", "k"))
		refuses(t, d, api.ErrDepotFull, row("x", strings.Repeat("k", 9999), float32(math.NaN())))
		if len(d.Heads()) != api.MaxHeads {
			t.Errorf("%s: %d heads", what, len(d.Heads()))
		}
	}
	d := made(t, 1000)
	var ops []api.Op
	for i := range api.MaxHeads {
		ops = append(ops, set(fmt.Sprint(i), "k", uint64(i)))
	}
	if names, e := does(t, d, "", ops...); len(names) != api.MaxHeads || e != api.OK {
		t.Errorf("all at once: %d, %d", len(names), e)
	}
	refuses(t, d, api.ErrDepotFull, set("x", "k", 1))
	ops = nil
	for i := range api.MaxHeads {
		ops = append(ops, drop(fmt.Sprint(i)))
	}
	if names, e := does(t, d, "", ops...); len(names) != api.MaxHeads || e != api.OK || d.Heads() != nil {
		t.Errorf("none of them: %d, %d", len(names), e)
	}
}

// TestTwoHeads: ops at two heads of one commit: each goes its own way, and the same ops make one commit.
func TestTwoHeads(t *testing.T) {
	d := made(t, 1000)
	changes(t, d, "a", set("a", "k", 1))
	changes(t, d, "b", branch("b", "a"))
	changes(t, d, "a b", set("a", "k", 2), set("b", "k", 3))
	is(t, d, "a", "k", 2, true)
	is(t, d, "b", "k", 3, true)
	if top(t, d, "a").From[0] != top(t, d, "b").From[0] {
		t.Errorf("two parents")
	}
	changes(t, d, "b", drop("b"), branch("b", "a"))
	changes(t, d, "a b", set("a", "k", 4), set("b", "k", 4))
	if headOf(t, d, "a") != headOf(t, d, "b") {
		t.Errorf("two commits that hold the same")
	}
	changes(t, d, "a", set("a", "k", 5), set("b", "k", 4))
}

// TestCommitBlock: a commit's block, byte by byte.
func TestCommitBlock(t *testing.T) {
	d := made(t, 1000)
	does(t, d, "one", set("main", "tea", 3))
	one := headOf(t, d, "main")
	linkBytes := func(l api.Link) []byte { return append([]byte("\xd8\x2a\x58\x25\x00\x01\x71\x12\x20"), l.Digest...) }
	want := slices.Concat([]byte("\xa4\x62at\x01\x64from\x80\x64note\x63one\x64root"), linkBytes(top(t, d, "main").Root))
	if b := blockOf(t, d, one); !bytes.Equal(b, want) {
		t.Errorf("%x; want %x", b, want)
	}
	does(t, d, "", set("main", "tea", 4))
	want = slices.Concat([]byte("\xa4\x62at\x02\x64from\x81"), linkBytes(one), []byte("\x64note\x60\x64root"), linkBytes(top(t, d, "main").Root))
	if b := blockOf(t, d, headOf(t, d, "main")); !bytes.Equal(b, want) {
		t.Errorf("%x; want %x", b, want)
	}
}

// TestLeft: nothing of what was made on the way is left, be the Do refused or not.
func TestLeft(t *testing.T) {
	d := madeOf(t, 5000, narrow, 1)
	changes(t, d, "main", sets("main", 20)...)
	blocks := func(ops ...api.Op) int {
		n := d.Store().Len()
		does(t, d, "", ops...)
		return d.Store().Len() - n
	}
	if n := blocks(set("main", "x", 1), del("main", "x")); n != 0 {
		t.Errorf("a key that came and went: %d blocks", n)
	}
	if n := blocks(append(sets("other", 20), drop("other"))...); n != 0 {
		t.Errorf("a head that came and went: %d blocks", n)
	}
	if n := blocks(append(sets("other", 20), drop("none"))...); n != 0 {
		t.Errorf("a head that came and was refused: %d blocks", n)
	}
	if n := blocks(row("main", "r", 1), row("main", "r", 2), row("main", "r", 3), del("main", "r")); n != 0 {
		t.Errorf("a column that came and went: %d blocks", n)
	}
	if n := blocks(branch("b", "main"), set("b", "key0", 9), set("b", "key0", 0)); n != 0 {
		t.Errorf("a branch: %d blocks", n)
	}
	once := twin(d)
	blocks(append(sets("main", 20), set("main", "x", 1), set("main", "x", 2), set("main", "x", 3))...)
	changes(t, once, "main", set("main", "x", 3))
	if standing(d.Store()) != standing(once.Store()) {
		t.Errorf("many ops, and the one of them that counts, lay unlike blocks")
	}
}

// TestFirstRoom: the first set of a depot wants room for the empty map, too, which does not stand behind it.
func TestFirstRoom(t *testing.T) {
	for room := 1; room < 5; room++ {
		d := made(t, room)
		_, e := does(t, d, "", set("main", "k", 1))
		if want := d.Store().Len() == 2; want != (room > 2) || want != (e == api.OK) {
			t.Errorf("room for %d: %d", room, e)
		}
	}
}

// TestRoom: just the room that the copy wants, with all that is made on the way, and one block less.
func TestRoom(t *testing.T) {
	cases := []struct {
		what string
		room int // of a depot in which two blocks stand
		left int // how many stand behind it
		ops  []api.Op
	}{
		{"no op", 2, 2, nil},
		{"a set that changes nothing", 2, 2, []api.Op{set("main", "k", 1)}},
		{"a set", 4, 4, []api.Op{set("main", "k", 2)}},
		{"two sets", 5, 4, []api.Op{set("main", "k", 2), set("main", "k", 3)}},
		{"a set and its delete", 3, 2, []api.Op{set("main", "l", 2), del("main", "l")}},
		{"a new head", 5, 4, []api.Op{set("new", "l", 2)}},
		{"a new head with the same map", 3, 2, []api.Op{set("new", "k", 1)}},
		{"a new head, and it is dropped", 4, 2, []api.Op{set("new", "l", 2), drop("new")}},
		{"a new column", 5, 5, []api.Op{row("main", "r")}},
		{"a new column with samples", 7, 6, []api.Op{row("main", "r", 1)}},
		{"a drop", 2, 2, []api.Op{drop("main")}},
		{"a branch", 2, 2, []api.Op{branch("b", "main")}},
		{"the empty map", 4, 4, []api.Op{del("main", "k")}},
	}
	for _, c := range cases {
		for room := 2; room < 9; room++ {
			d := made(t, 3)
			changes(t, d, "main", set("main", "k", 1))
			d = moved(t, d, room)
			_, e := does(t, d, "", c.ops...)
			want, left := api.OK, c.left
			if room < c.room {
				want, left = api.ErrStoreFull, 2
			}
			if e != want || d.Store().Len() != left {
				t.Errorf("%s, room for %d: %d, %d blocks; want %d, %d", c.what, room, e, d.Store().Len(), want, left)
			}
		}
	}
}
