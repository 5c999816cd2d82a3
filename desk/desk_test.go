package desk

// P22.1, P22.3, P22.4: desks, their depots, and what they have in common: nothing. The chapter's examples.

import (
	"math"
	"slices"
	"strings"
	"testing"
	"unsafe"

	"trellis/api"
	"trellis/sample"
)

// TestExamples: the chapter's examples.
func TestExamples(t *testing.T) {
	d := made(t)
	says(t, d, "set 0 main tea 3", `"main"`)
	says(t, d, "get 0 main tea", "3")
	says(t, d, "get 0 main milk", "none")
	refuses(t, d, "get 0 side tea", api.ErrDepotHead)
	says(t, d, "all 0 main", `"tea" 3`)

	says(t, d, "begin 0")
	says(t, d, `set 0 main "a b" [1,2.0]`)
	says(t, d, "drop 0 side")
	before := held(d.Depot(0))
	if l, e := d.Say("commit 0 try"); l != nil || e != api.ErrDepotHead || held(d.Depot(0)) != before {
		t.Errorf("commit: %q, %d", l, e)
	}
	says(t, d, "all 0 main", `"tea" 3`)

	says(t, d, "append 0 main row 1.5 2 -0.25", `"main"`)
	says(t, d, "count 0 main row", "3")
	says(t, d, "sum 0 main row 0 3", "3.25")
	says(t, d, "ends 0 main row 0 3", "-0.25 2.0")
	refuses(t, d, "sum 0 main tea 0 1", api.ErrDepotRow)

	says(t, d, "copy 0 main 1 main", "6") // two commits and their maps, a column's root and leaf
	says(t, d, "all 1 main", does(t, d, "all 0 main")...)
	says(t, d, "heads 1", does(t, d, "heads 0")...)

	says(t, d, `lay {"b":1,"a":null}`, "#a26161f6616201")
	says(t, d, "read #a2616201616100 9", "fault 84 4")
	says(t, d, "loose #a2616201616100 9", `{"a":0,"b":1}`, "note 4 4")
	says(t, d, "read #f97c00 0", "fault 83 0")
	says(t, d, "")
	says(t, d, "   ")
	refuses(t, d, "fly", api.ErrDeskLine)
	refuses(t, d, "get 9 main tea", api.ErrDeskName)
	refuses(t, d, "get 01 main tea", api.ErrDeskLine)
}

// TestNew: how many depots there may be, and then what a depot may be.
func TestNew(t *testing.T) {
	for _, n := range []int{0, -1, 5, 64, math.MaxInt, math.MinInt} {
		for _, room := range []int{10, 0} {
			if d, e := New(n, room, api.Trie{}, 0); d != nil || e != api.ErrDeskName {
				t.Errorf("%d depots: %v, %d", n, d, e)
			}
		}
	}
	for _, x := range []struct {
		room  int
		c     api.Trie
		width int
		want  api.Errno
	}{
		{0, api.Trie{}, 0, api.ErrStoreRoom},
		{api.MaxBlocks + 1, wide, 4, api.ErrStoreRoom},
		{1, api.Trie{Width: 9, Bucket: 1, Bytes: 1}, 0, api.ErrTrieConfig},
		{1, api.Trie{Width: 1, Bucket: 17, Bytes: 1}, 1, api.ErrTrieConfig},
		{1, api.Trie{Width: 1, Bucket: 1}, 1, api.ErrTrieConfig},
		{1, wide, 0, api.ErrColumnWidth},
		{1, wide, 9, api.ErrColumnWidth},
	} {
		for n := 1; n <= api.MaxDepots; n++ {
			if d, e := New(n, x.room, x.c, x.width); d != nil || e != x.want {
				t.Errorf("%d depots of %+v: %v, %d", n, x, d, e)
			}
		}
	}
}

// TestDepots: so many depots, each of that room and those widths, each by itself; nothing is gathered.
func TestDepots(t *testing.T) {
	for n := 1; n <= api.MaxDepots; n++ {
		d := madeOf(t, n, 20, narrow, 1)
		for i := range n {
			digit := string(rune('0' + i))
			says(t, d, "heads "+digit)
			says(t, d, "blocks "+digit, "0 0")
			refuses(t, d, "commit "+digit+" x", api.ErrDeskLine)
			refuses(t, d, "cancel "+digit, api.ErrDeskLine)
			says(t, d, "begin "+digit)
			says(t, d, "cancel "+digit)
		}
		for i := range n {
			s := d.Depot(i).Store()
			if s.Room() != 20 || s.Len() != 0 {
				t.Errorf("depot %d of %d: room %d, %d blocks", i, n, s.Room(), s.Len())
			}
			digit := string(rune('0' + i))
			says(t, d, "append "+digit+" main row 1 2 3", `"main"`)
			says(t, d, "prove "+digit+" main none", hex(blockOf(t, d, i, rootOf(t, d, i, "main"))))
			want := held(d.Depot(0))
			for j := range n {
				if now := held(d.Depot(j)); j <= i && now != want || j > i && now != "0 0 20\n" {
					t.Errorf("behind a line for depot %d, depot %d is %s", i, j, now)
				}
			}
		}
		refuses(t, d, "heads "+string(rune('0'+n)), api.ErrDeskName)
	}
}

// blockOf: what stands under a link.
func blockOf(t *testing.T, d *Desk, i int, name string) []byte {
	t.Helper()
	b, e := d.Depot(i).Store().Get(linkOfText(t, name))
	if e != api.OK {
		t.Fatalf("%s: %d", name, e)
	}
	return b
}

// TestWidths: the widths are those of what ops make.
func TestWidths(t *testing.T) {
	d := madeOf(t, 1, 100, narrow, 3)
	all(t, d, "set 0 main b 1", "append 0 main row 1")
	root := treeOfForm(t, d, rootOf(t, d, 0, "main"))
	if text(root)[:len(`["trie",2,1,1,`)] != `["trie",2,1,1,` {
		t.Errorf("a map: %s", text(root))
	}
	row := treeOfForm(t, d, does(t, d, "get 0 main row")[0])
	if text(row)[:len(`["column",3,1,`)] != `["column",3,1,` {
		t.Errorf("a column: %s", text(row))
	}
}

// treeOfForm: the tree that stands under a link in depot 0, told by a line.
func treeOfForm(t *testing.T, d *Desk, name string) api.Value {
	t.Helper()
	return treeOfText(t, does(t, d, lineOf("read", hex(blockOf(t, d, 0, name)), "1024"))[0])
}

// TestDepot: the desk's own depot, the same each time; what is done to it, or to its store, is seen; nil, where there is none.
func TestDepot(t *testing.T) {
	d := made(t)
	for _, i := range []int{-1, 2, 3, 4, math.MaxInt, math.MinInt, math.MinInt + 1} {
		if d.Depot(i) != nil {
			t.Errorf("there is a depot %d", i)
		}
	}
	zero, one := d.Depot(0), d.Depot(1)
	if zero == nil || one == nil || zero == one || d.Depot(0) != zero || d.Depot(1) != one {
		t.Fatal("the depots are not two, or others each time")
	}
	set := api.Op{Kind: api.OpSet, Head: "main", Key: []byte("k"), Value: sample.Whole(5)}
	if _, e := one.Do("by hand", set); e != api.OK {
		t.Fatal(e)
	}
	says(t, d, "get 1 main k", "5")
	refuses(t, d, "get 0 main k", api.ErrDepotHead)
	root := rootOf(t, d, 1, "main")
	one.Store().Delete(linkOfText(t, root))
	refuses(t, d, "get 1 main k", api.ErrStoreNone)
	if n, e := one.Store().Add(api.Block{}); n != 0 || e != api.ErrStoreLink {
		t.Errorf("%d, %d", n, e)
	}
	does(t, d, "set 0 main k 5")
	if v, is, e := zero.Get("main", []byte("k")); v.N != 5 || !is || e != api.OK {
		t.Errorf("%v, %v, %d", v, is, e)
	}
	says(t, d, "begin 0")
	does(t, d, "set 0 main k 6")
	if v, _, _ := zero.Get("main", []byte("k")); v.N != 5 {
		t.Error("what is gathered is carried out")
	}
	// An op that is no line's is carried out at once, whatever is gathered.
	if _, e := zero.Do("by hand", set, api.Op{Kind: api.OpDrop, Head: "main"}); e != api.OK {
		t.Fatal(e)
	}
	says(t, d, "commit 0 late", `"main"`)
	says(t, d, "log 0 main 9", "1 "+rootOf(t, d, 0, "main")+` "late"`)
}

// TestNone: a desk that nobody has made has no depots, and tells trees by themselves.
func TestNone(t *testing.T) {
	d := &Desk{}
	if d.Depot(0) != nil {
		t.Error("it has a depot")
	}
	for _, line := range goodLines(t) {
		switch name, _, _ := strings.Cut(line, " "); name {
		case "lay", "read", "loose", "verify":
		default:
			refuses(t, d, line, api.ErrDeskName)
		}
	}
	says(t, d, "lay 1", "#01")
	says(t, d, "read #01 0", "1")
	says(t, d, "")
	refuses(t, d, "fly", api.ErrDeskLine)
}

// TestTwoDesks: what is said to one, or gathered on it, is not seen on another.
func TestTwoDesks(t *testing.T) {
	a, b := made(t), made(t)
	for i := range 2 {
		for j := range 2 {
			if a.Depot(i) == b.Depot(j) {
				t.Fatal("two desks have one depot")
			}
		}
	}
	before := state(b)
	all(t, a, "set 0 main tea 3", "begin 0", "set 0 main tea 4", "begin 1", "force 0 "+named(lost("x"))+" #00")
	if state(b) != before {
		t.Error("what was said to one desk is seen on the other")
	}
	refuses(t, b, "commit 0 x", api.ErrDeskLine)
	says(t, b, "begin 0")
	says(t, b, "commit 0 x")
	says(t, a, "commit 0 x", `"main"`)
}

// TestOwn: what is told is the caller's own (R2).
func TestOwn(t *testing.T) {
	d := rich(t)
	for _, line := range askingLines(t, d) {
		l := does(t, d, line)
		want := slices.Clone(l)
		for i := range l[:cap(l)] {
			l[:cap(l)][i] = "other"
		}
		says(t, d, line, want...)
	}
	// Of those that change something as well.
	names := does(t, d, "set 0 main own 1")
	names[0] = "other"
	names = append(names[:0], "other")
	says(t, d, "set 0 main own 2", `"main"`)
	if names[0] != "other" {
		t.Error("two answers have memory in common")
	}
}

// TestNotKept: what was handed in is not kept: its bytes may be written over (R2).
func TestNotKept(t *testing.T) {
	d, other := made(t), made(t)
	for _, line := range []string{
		`set 0 main tea "a b"`, "set 0 main #00 #ff", "append 0 main row 1.5", "begin 0", `set 0 new k {"a":"b"}`, `set 0 "a b" k 1`, "branch 0 side main",
		"append 0 main row 2", "merge 0 main main", "delete 0 main tea", "heads 0", "commit 0 note", "heads 0", "all 0 new", "log 0 main 9", "branch 0 more main", "drop 0 side", "heads 0", "all 0 more",
	} {
		b := []byte(line)
		l, e := d.Say(unsafe.String(&b[0], len(b)))
		for i := range b {
			b[i] = 'x'
		}
		if want, bad := other.Say(line); !slices.Equal(l, want) || e != bad || e != api.OK {
			t.Errorf("%s: %q, %d; want %q, %d", line, l, e, want, bad)
		}
		if state(d) != state(other) {
			t.Fatalf("%s: the line was kept:\n%s\n%s", line, state(d), state(other))
		}
	}
}

// askingLines: lines that change nothing, and ask for all that there is.
func askingLines(t *testing.T, d *Desk) []string {
	t.Helper()
	lines := []string{"heads 0", "heads 1", "check 0", "blocks 0", "diff 0 main side", "diff 0 side main", "diff 0 main main"}
	for _, name := range []string{"main", "side", "other", `""`} {
		lines = append(lines, "all 0 "+name, "log 0 "+name+" 9", "all 1 "+name, "count 0 "+name+" row")
		lines = append(lines, "sum 0 "+name+" row 0 3", "ends 0 "+name+" row 1 4", "sum 0 "+name+" tea 0 1")
		for _, key := range []string{"tea", "milk", `"a b"`, "#00ff", "#", "row", "tree", "text", "x", "lacking"} {
			lines = append(lines, lineOf("get 0", name, key), lineOf("prove 0", name, key))
		}
	}
	var good []string
	for _, line := range lines {
		if _, e := d.Say(line); e == api.OK {
			good = append(good, line)
		}
	}
	if len(good) < 40 {
		t.Fatalf("few lines are not refused: %q", good)
	}
	return append(good, `lay {"b":1,"a":null}`, "loose #a2616201616100 9", "read #8101 1")
}
