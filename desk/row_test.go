package desk

// P22.2, P22.5: each row of the table, what it does and what it tells, and which error counts.

import (
	"fmt"
	"slices"
	"strconv"
	"strings"
	"testing"

	"trellis/api"
	"trellis/archive"
	"trellis/lay"
	"trellis/proof"
	"trellis/sample"
	"trellis/trie"
)

// TestSet: a head that is made, a key that gets a value, another one, the same; what a trie refuses.
func TestSet(t *testing.T) {
	d := made(t)
	says(t, d, "set 0 main tea 3", `"main"`)
	says(t, d, "set 0 main tea 3")
	says(t, d, "set 0 main tea 4", `"main"`)
	says(t, d, `set 0 "main" "tea" {"b":1,"a":[]}`, `"main"`)
	says(t, d, "get 0 main tea", `{"a":[],"b":1}`)
	says(t, d, `set 0 main tea {"a":[],"b":1}`)
	says(t, d, "set 0 \"a\\nb\" k 1", `"a\nb"`)
	says(t, d, "heads 1")
	refuses(t, d, `set 0 "" k 1`, api.ErrDepotName)
	refuses(t, d, "set 0 "+strings.Repeat("n", 65)+" k 1", api.ErrDepotName)
	says(t, d, "set 0 "+strings.Repeat("n", 64)+" k 1", `"`+strings.Repeat("n", 64)+`"`)
	refuses(t, d, "set 0 main k "+strings.Repeat("[", 513)+strings.Repeat("]", 513), api.ErrTrieValue)
	small := madeOf(t, 1, 1, wide, 4)
	refuses(t, small, "set 0 main k 1", api.ErrStoreFull)
	// Keys of one path, of which a trie has room for one.
	deep := madeOf(t, 1, 100, narrow, 4)
	p, q := onePath()
	says(t, deep, lineOf("set 0 main", p, "1"), `"main"`)
	refuses(t, deep, lineOf("set 0 main", q, "1"), api.ErrTrieDepth)
	says(t, deep, lineOf("set 0 main", p, "2"), `"main"`)
}

// TestDelete: a key that is there, one that is not, a head that is not.
func TestDelete(t *testing.T) {
	d := made(t)
	refuses(t, d, "delete 0 main tea", api.ErrDepotHead)
	all(t, d, "set 0 main tea 3", "set 0 main #ff 4")
	says(t, d, "delete 0 main milk")
	says(t, d, "delete 0 main tea", `"main"`)
	says(t, d, "get 0 main tea", "none")
	says(t, d, `delete 0 main "#ff"`)
	says(t, d, "delete 0 main #ff", `"main"`)
	says(t, d, "all 0 main")
	refuses(t, d, `delete 0 "" tea`, api.ErrDepotName)
}

// TestAppend: samples, each by one rounding of its text; what is no column.
func TestAppend(t *testing.T) {
	d := made(t)
	says(t, d, "append 0 main row 1.5 2 -0.25", `"main"`)
	says(t, d, "append 0 main row 16777217.0000000001 -0 1e-50 -1e-50 3.4028235e38", `"main"`)
	for i, want := range []string{"1.5", "2.0", "-0.25", "16777218.0", "-0.0", "0.0", "-0.0", "3.4028235e38"} {
		says(t, d, fmt.Sprintf("ends 0 main row %d %d", i, i+1), want+" "+want)
	}
	says(t, d, "count 0 main row", "8")
	for _, x := range []string{"1e39", "-1e39", "3.4028236e38", "1e999999999", "1" + strings.Repeat("0", 99)} {
		refuses(t, d, "append 0 main row "+x, api.ErrNumberRange)
		refuses(t, d, "append 0 main row 1 2 "+x+" 3", api.ErrNumberRange)
		// Ahead of what the op would say, behind what the line and its depot say.
		refuses(t, d, `append 0 "" row `+x, api.ErrNumberRange)
		refuses(t, d, "append 0 main tea "+x, api.ErrNumberRange)
		refuses(t, d, "append 0 main row "+x+" x", api.ErrDeskLine)
		refuses(t, d, "append 0 main row x "+x, api.ErrDeskLine)
		refuses(t, d, "append 2 main row "+x, api.ErrDeskName)
	}
	all(t, d, "set 0 main tea 3", "set 0 main away "+named(lost("x")), "set 0 main map "+rootOf(t, d, 0, "main"))
	refuses(t, d, "append 0 main tea 1", api.ErrDepotRow)
	refuses(t, d, "append 0 main away 1", api.ErrStoreNone)
	refuses(t, d, "append 0 main map 1", api.ErrColumnNode)
	refuses(t, d, `append 0 "" row 1`, api.ErrDepotName)
	says(t, d, "append 0 new row 1", `"new"`)
	// As many samples as a line has room for.
	line := "append 1 main row" + strings.Repeat(" 1", (api.MaxLine-len("append 1 main row"))/2)
	says(t, d, line, `"main"`)
	says(t, d, "count 1 main row", strconv.Itoa((api.MaxLine-len("append 1 main row"))/2))
}

// TestBranchDrop: heads that come and go.
func TestBranchDrop(t *testing.T) {
	d := made(t)
	refuses(t, d, "branch 0 side main", api.ErrDepotHead)
	all(t, d, "set 0 main tea 3", "set 0 other tea 4")
	says(t, d, "branch 0 side main", `"side"`)
	if headOf(t, d, 0, "side") != headOf(t, d, 0, "main") {
		t.Error("a branch is another commit")
	}
	refuses(t, d, "branch 0 side main", api.ErrDepotHead)
	refuses(t, d, "branch 0 main side", api.ErrDepotHead)
	refuses(t, d, "branch 0 new none", api.ErrDepotHead)
	refuses(t, d, `branch 0 "" main`, api.ErrDepotName)
	refuses(t, d, `branch 0 new ""`, api.ErrDepotName)
	refuses(t, d, "drop 0 none", api.ErrDepotHead)
	refuses(t, d, `drop 0 ""`, api.ErrDepotName)
	says(t, d, "drop 0 main", `"main"`)
	says(t, d, "get 0 side tea", "3")
	for i := 2; i < api.MaxHeads; i++ {
		does(t, d, fmt.Sprintf("branch 0 b%d side", i))
	}
	refuses(t, d, "branch 0 more side", api.ErrDepotFull)
	refuses(t, d, "set 0 more k 1", api.ErrDepotFull)
	if n := len(does(t, d, "heads 0")); n != api.MaxHeads {
		t.Errorf("%d heads", n)
	}
}

// TestMerge: what both have changed, in three ways.
func TestMerge(t *testing.T) {
	begun := func() *Desk {
		d := made(t)
		all(t, d, "set 0 main tea 3", "branch 0 side main", "set 0 main tea 4", "set 0 main a 1", "set 0 side tea 5", "set 0 side b 1")
		return d
	}
	refuses(t, begun(), "merge 0 main side", api.ErrDepotClash)
	for line, tea := range map[string]string{"merge 0 main side ours": "4", "merge 0 main side theirs": "5", " merge  0  main  side  theirs ": "5", "merge 0 side main ours": "5", "merge 0 side main theirs": "4"} {
		d := begun()
		into := strings.Fields(line)[2]
		says(t, d, line, quoted(into))
		says(t, d, lineOf("get 0", into, "tea"), tea)
		says(t, d, lineOf("get 0", into, "a"), "1")
		says(t, d, lineOf("get 0", into, "b"), "1")
		says(t, d, line)
		l, _ := d.Depot(0).Head(into)
		if c, e := d.Depot(0).Commit(l); len(c.From) != 2 || c.At != 4 || e != api.OK {
			t.Errorf("%s: %+v, %d", line, c, e)
		}
	}
	d := begun()
	says(t, d, "merge 0 main main")
	does(t, d, "delete 0 side tea")
	does(t, d, "delete 0 main tea")
	says(t, d, "merge 0 main side", `"main"`)
	refuses(t, d, "merge 0 main none", api.ErrDepotHead)
	refuses(t, d, "merge 0 none main", api.ErrDepotHead)
	refuses(t, d, `merge 0 "" main`, api.ErrDepotName)
	refuses(t, d, `merge 0 main "" ours`, api.ErrDepotName)
	// Heads by the names of a row's own words.
	all(t, d, "branch 0 ours main", "branch 0 theirs main", "set 0 theirs x 1")
	says(t, d, "merge 0 ours theirs", `"ours"`)
	says(t, d, "merge 0 theirs ours", `"theirs"`)
	says(t, d, "merge 0 ours theirs theirs", `"ours"`)
	says(t, d, "merge 0 ours ours ours")
}

// TestGet: a value, or that there is none; what breaks on the way.
func TestGet(t *testing.T) {
	d := rich(t)
	for key, want := range map[string]string{
		"tea": "4", `"a b"`: `{"a":#00ff,"b":[1,-2.5,null]}`, "#00ff": "none", "#": `"\n"`, `""`: `"\n"`, "milk": "5", "none": "none", "x": "none",
	} {
		says(t, d, "get 0 main "+key, want)
	}
	says(t, d, "get 0 side text", `"none"`)
	refuses(t, d, "get 0 none tea", api.ErrDepotHead)
	refuses(t, d, `get 0 "" tea`, api.ErrDepotHead)
	refuses(t, d, "get 1 side tea", api.ErrDepotHead)
}

// TestAll: entries in the order of the trie.
func TestAll(t *testing.T) {
	d := madeOf(t, 1, 1000, narrow, 1)
	all(t, d, `set 0 main "" "e"`, "set 0 main b 1", "set 0 main c [2]", "set 0 main a #", "set 0 side x 1")
	// Chapter 14: the slices of c and of b begin with 0, of a and of the empty key with 3.
	says(t, d, "all 0 main", `"c" [2]`, `"b" 1`, `"a" #`, `"" "e"`)
	all(t, d, "delete 0 main a", "delete 0 main b", "delete 0 main c", "delete 0 main #")
	says(t, d, "all 0 main")
	refuses(t, d, "all 0 none", api.ErrDepotHead)
	d = rich(t)
	l, e := d.Depot(0).Entries("side")
	var want []string
	for _, x := range l {
		want = append(want, plainKey(x.Key)+" "+text(x.Value))
	}
	if e != api.OK || len(want) != 7 {
		t.Fatalf("%q, %d", want, e)
	}
	says(t, d, "all 0 side", want...)
}

// TestHeads: by their names, each with the link of its commit.
func TestHeads(t *testing.T) {
	d := made(t)
	says(t, d, "heads 0")
	names := []string{"b", "aa", "a", "\u00e4", " ", "B", "\"", "\n"}
	for i, name := range names {
		does(t, d, fmt.Sprintf("set 0 %s k %d", quoted(name), i))
	}
	slices.Sort(names)
	var want []string
	for _, name := range names {
		want = append(want, quoted(name)+" "+headOf(t, d, 0, name))
	}
	says(t, d, "heads 0", want...)
	if !strings.HasPrefix(want[0], `"\n" &b`) {
		t.Errorf("%q", want[0])
	}
	says(t, d, "heads 1")
	// Heads are told whatever stands in the store.
	for _, l := range d.Depot(0).Store().Links() {
		d.Depot(0).Store().Delete(l)
	}
	says(t, d, "heads 0", want...)
}

// TestLog: of each commit its number, its root, its note.
func TestLog(t *testing.T) {
	d := made(t)
	var want []string
	for i, note := range []string{"", "try", "a b", `"`, "\n\u00e4", strings.Repeat("n", api.MaxNote)} {
		all(t, d, "begin 0", fmt.Sprintf("set 0 main k %d", i), "commit 0 "+quoted(note))
		l, _ := d.Depot(0).Head("main")
		c, e := d.Depot(0).Commit(l)
		if e != api.OK || c.Note != note {
			t.Fatalf("%+v, %d", c, e)
		}
		want = append([]string{fmt.Sprintf("%d %s %s", i+1, named(c.Root), quoted(note))}, want...)
		says(t, d, "log 0 main 9", want...)
		says(t, d, "log 0 main 1", want[0])
	}
	says(t, d, "log 0 main 0")
	says(t, d, "log 0 main 3", want[:3]...)
	refuses(t, d, "log 0 none 3", api.ErrDepotHead)
	refuses(t, d, "log 0 none 0", api.ErrDepotHead)
	// A root by another one's history is the same one.
	does(t, d, "set 1 main k 5")
	if rootOf(t, d, 1, "main") != rootOf(t, d, 0, "main") {
		t.Error("one map has two roots")
	}
}

// onePath: two keys that have one path in a trie of one byte, as lines have them.
func onePath() (p, q string) {
	first := map[byte]string{}
	for i := 0; ; i++ {
		key := "k" + strconv.Itoa(i)
		b := pathOf(key)[0]
		if before, is := first[b]; is {
			return before, key
		}
		first[b] = key
	}
}

// TestProveVerify: the blocks on a key's path, and what they tell.
func TestProveVerify(t *testing.T) {
	d := madeOf(t, 1, 1000, narrow, 1)
	all(t, d, "set 0 main b 1", "set 0 main c [2]", `set 0 main a "none"`)
	root := rootOf(t, d, 0, "main")
	for key, want := range map[string]struct {
		blocks int
		value  string
	}{"a": {1, `"none"`}, "b": {2, "1"}, "c": {2, "[2]"}, `""`: {1, "none"}, "#": {1, "none"}} {
		l := does(t, d, "prove 0 main "+key)
		if len(l) != want.blocks {
			t.Errorf("%s: %d blocks", key, len(l))
		}
		blocks, e := proof.Prove(d.Depot(0).Store(), linkOfText(t, root), keyOf(wordOf(t, key)))
		for i, b := range blocks {
			if e != api.OK || l[i] != hex(b) {
				t.Errorf("%s, block %d: %s; want %x, %d", key, i, l[i], b, e)
			}
		}
		says(t, d, lineOf("verify", root, key, lineOf(l...)), want.value)
		refuses(t, d, lineOf("verify", root, key, lineOf(l...), l[0]), api.ErrProofLeft)
		refuses(t, d, lineOf("verify", headOf(t, d, 0, "main"), key, lineOf(l...)), api.ErrProofBad)
	}
	two := does(t, d, "prove 0 main b")
	says(t, d, lineOf("verify", root, "c", lineOf(two...)), "[2]")
	refuses(t, d, lineOf("verify", root, "c", two[0]), api.ErrProofShort)
	refuses(t, d, lineOf("verify", root, "c", two[1], two[0]), api.ErrProofBad)
	refuses(t, d, lineOf("verify", root, "c", "#"), api.ErrProofBad)
	refuses(t, d, lineOf("verify", root, "c"), api.ErrDeskLine)
	raw := under(api.CodecRaw, []byte("x"))
	refuses(t, d, lineOf("verify", named(raw), "c", hex([]byte("x"))), api.ErrTrieNode)
	for _, w := range linkWords(t, linkOfText(t, root)) {
		says(t, d, lineOf("verify", w, "b", lineOf(two...)), "1")
	}
	refuses(t, d, "prove 0 none b", api.ErrDepotHead)
}

// wordOf: a word of a line.
func wordOf(t *testing.T, s string) word {
	t.Helper()
	r := reader{s}
	w, good := r.word()
	if !good || !r.isDone() {
		t.Fatalf("%s is no word", s)
	}
	return w
}

// TestDiff: of each key what the first head has and what the second one has.
func TestDiff(t *testing.T) {
	d := made(t)
	all(t, d, "set 0 a tea 3", `set 0 a "a b" "none"`, "set 0 a #ff 1", "branch 0 b a", "set 0 b tea 4", "delete 0 b #ff", "set 0 b milk [1]", "set 0 b # {}")
	says(t, d, "diff 0 a b", `"" none {}`, `"milk" none [1]`, `"tea" 3 4`, "#ff 1 none")
	says(t, d, "diff 0 b a", `"" {} none`, `"milk" [1] none`, `"tea" 4 3`, "#ff none 1")
	says(t, d, "diff 0 a a")
	refuses(t, d, "diff 0 a none", api.ErrDepotHead)
	refuses(t, d, "diff 0 none a", api.ErrDepotHead)
	refuses(t, d, "diff 1 a b", api.ErrDepotHead)
	// Tries of unlike widths: one comes from elsewhere.
	other := madeOf(t, 1, 100, narrow, 4)
	does(t, other, "set 0 main tea 3")
	b, _ := other.Depot(0).Export("main")
	if _, f := d.Depot(0).Import("c", b); f.Code != api.OK {
		t.Fatal(f)
	}
	refuses(t, d, "diff 0 a c", api.ErrChangeConfig)
	refuses(t, d, "merge 0 a c", api.ErrChangeConfig)
}

// TestReading: prove and diff ask for heads, then read the first one's commit, then the second one's, then the maps; of each row the errors of what is lost or forced.
func TestReading(t *testing.T) {
	links := func(d *Desk, name string) (commit, root string) { return headOf(t, d, 0, name), rootOf(t, d, 0, name) }
	lines := []string{"diff 0 main side", "prove 0 main tea", "get 0 main tea", "all 0 main", "log 0 main 1", "count 0 main row", "sum 0 main row 0 1", "ends 0 main row 0 1", "copy 0 main 1 copied", "fetch 1 fetched 0 main 1", "set 0 main k 9", "delete 0 main tea", "append 0 main row 1", "merge 0 main side", "check 0"}
	for _, line := range lines {
		d := rich(t)
		commit, root := links(d, "main")
		says(t, d, "lose 0 "+commit, "yes")
		refuses(t, d, line, api.ErrStoreNone)
		says(t, d, "force 0 "+commit+" #00")
		refuses(t, d, line, api.ErrStoreBad)
		d = rich(t)
		does(t, d, "lose 0 "+root)
		if line == "log 0 main 1" {
			does(t, d, line)
			continue
		}
		refuses(t, d, line, api.ErrStoreNone)
		does(t, d, "force 0 "+root+" "+hex([]byte("forced")))
		refuses(t, d, line, api.ErrStoreBad)
	}
	// Of two commits that are broken the first one's error.
	d := rich(t)
	main, _ := links(d, "main")
	side, root := links(d, "side")
	all(t, d, "lose 0 "+main, "force 0 "+side+" #", "lose 0 "+root)
	refuses(t, d, "diff 0 main side", api.ErrStoreNone)
	refuses(t, d, "diff 0 side main", api.ErrStoreBad)
	refuses(t, d, "diff 0 side none", api.ErrDepotHead)
	refuses(t, d, "diff 0 none side", api.ErrDepotHead)
	refuses(t, d, "prove 0 side tea", api.ErrStoreBad)
	// A head's commit, and none: behind the first one's error a map that is lost does not count.
	d = rich(t)
	side, _ = links(d, "side")
	_, root = links(d, "main")
	all(t, d, "lose 0 "+root, "force 0 "+side+" #")
	refuses(t, d, "diff 0 main side", api.ErrStoreBad)
}

// TestColumns: count, sum and ends of what stands under a key.
func TestColumns(t *testing.T) {
	d := rich(t)
	does(t, d, "set 0 main none "+named(lost("never")))
	rows := []string{"count 0 main KEY", "sum 0 main KEY 0 1", "ends 0 main KEY 0 1"}
	for key, want := range map[string]api.Errno{"tea": api.ErrDepotRow, "lacking": api.ErrDepotRow, "#": api.ErrDepotRow, `"a b"`: api.ErrDepotRow, "tree": api.ErrColumnNode, "none": api.ErrStoreNone} {
		for _, row := range rows {
			refuses(t, d, strings.Replace(row, "KEY", key, 1), want)
		}
	}
	for _, row := range rows {
		refuses(t, d, strings.Replace(strings.Replace(row, "main", "none", 1), "KEY", "row", 1), api.ErrDepotHead)
	}
	says(t, d, "count 0 main row", "8")
	for part, want := range map[string][2]string{
		"0 8": {"15.25", "-0.25 5.0"}, "0 3": {"3.25", "-0.25 2.0"}, "3 4": {"0.0", "-0.0 -0.0"}, "4 5": {"9.99994610111476e-41", "1e-40 1e-40"}, "5 8": {"12.0", "3.0 5.0"}, "3 5": {"9.99994610111476e-41", "-0.0 1e-40"},
	} {
		says(t, d, "sum 0 main row "+part, want[0])
		says(t, d, "ends 0 main row "+part, want[1])
	}
	says(t, d, "sum 0 main row 0 0", "0.0")
	says(t, d, "sum 0 main row 8 8", "0.0")
	for _, part := range []string{"1 0", "0 9", "9 9", "2147483647 2147483647", "0 2147483647"} {
		refuses(t, d, "sum 0 main row "+part, api.ErrColumnRange)
		refuses(t, d, "ends 0 main row "+part, api.ErrColumnRange)
	}
	refuses(t, d, "ends 0 main row 0 0", api.ErrColumnRange)
	// Of a column that is lost below its root the root tells how many there are, and what all of them come to.
	all(t, d, "append 1 main row 1 2 3 4 5 6 7 8 9 10 11 12 13 14 15 16 17")
	l := linkOfText(t, does(t, d, "get 1 main row")[0])
	for _, x := range d.Depot(1).Store().Links() {
		if c, _ := d.Depot(1).Store().Get(x); x != l && len(c) > 0 && c[0] != 0xa4 && c[0] != 0x86 {
			d.Depot(1).Store().Delete(x)
		}
	}
	says(t, d, "count 1 main row", "17")
	says(t, d, "sum 1 main row 0 17", "153.0")
	says(t, d, "ends 1 main row 0 17", "1.0 17.0")
	refuses(t, d, "sum 1 main row 0 16", api.ErrStoreNone)
	refuses(t, d, "ends 1 main row 1 17", api.ErrStoreNone)
}

// TestSweepCheck: how many blocks were deleted, how many commits there are.
func TestSweepCheck(t *testing.T) {
	d := made(t)
	says(t, d, "sweep 0", "0")
	says(t, d, "check 0", "0")
	all(t, d, "set 0 main tea 3", "set 0 other a 1", "drop 0 other")
	says(t, d, "check 0", "1")
	says(t, d, "blocks 0", fmt.Sprintf("4 %d", d.Depot(0).Store().Size()))
	says(t, d, "sweep 0", "2")
	says(t, d, "sweep 0", "0")
	says(t, d, "check 0", "1")
	root := rootOf(t, d, 0, "main")
	does(t, d, "lose 0 "+root)
	says(t, d, "sweep 0", "0")
	refuses(t, d, "check 0", api.ErrStoreNone)
	refuses(t, d, "set 0 main k 1", api.ErrStoreNone)
	does(t, d, "force 0 "+root+" #")
	refuses(t, d, "sweep 0", api.ErrStoreBad)
	refuses(t, d, "check 0", api.ErrStoreBad)
	says(t, d, "drop 0 main", `"main"`)
	says(t, d, "sweep 0", "2")
	says(t, d, "blocks 0", "0 0")
}

// TestBlocks: lose, force, and how much stands there.
func TestBlocks(t *testing.T) {
	d := madeOf(t, 2, 2, wide, 4)
	a, b, c := named(under(api.CodecRaw, []byte("a"))), named(lost("b")), named(lost("c"))
	says(t, d, "blocks 0", "0 0")
	says(t, d, "lose 0 "+a, "no")
	says(t, d, "force 0 "+a+" #61")
	says(t, d, "force 0 "+a+" #"+strings.Repeat("00", 1900))
	says(t, d, "blocks 0", "1 1900")
	says(t, d, "blocks 1", "0 0")
	says(t, d, "force 0 "+b+" #")
	says(t, d, "blocks 0", "2 1900")
	refuses(t, d, "force 0 "+c+" #", api.ErrStoreFull)
	says(t, d, "force 0 "+a+" #61")
	if x, e := d.Depot(0).Store().Get(linkOfText(t, a)); string(x) != "a" || e != api.OK {
		t.Errorf("%q, %d", x, e)
	}
	says(t, d, "blocks 0", "2 1")
	says(t, d, "lose 1 "+a, "no")
	says(t, d, "lose 0 "+a, "yes")
	says(t, d, "lose 0 "+a, "no")
	says(t, d, "blocks 0", "1 0")
	itself := named(sample.Link("hi").Link)
	refuses(t, d, "force 0 "+itself+" #6869", api.ErrStoreLink)
	says(t, d, "lose 0 "+itself, "no")
	// A link of version 0 is another one than that of version 1 of the same digest, by whichever text.
	old := api.Link{Codec: api.CodecOld, Hash: api.HashSha, Digest: linkOfText(t, b).Digest}
	says(t, d, "force 0 "+named(old)+" #00")
	says(t, d, "blocks 0", "2 1")
	for _, w := range linkWords(t, linkOfText(t, b)) {
		says(t, d, "force 0 "+w+" #0000")
		says(t, d, "blocks 0", "2 3")
		says(t, d, "lose 0 "+w, "yes")
		says(t, d, "blocks 0", "1 1")
	}
}

// TestCopy: a head as one of another depot, and of the same one.
func TestCopy(t *testing.T) {
	d := rich(t)
	does(t, d, "set 0 main none "+named(lost("never")))
	refuses(t, d, "copy 0 main 1 new", api.ErrStoreNone)
	all(t, d, "set 0 clean tea 3", "append 0 clean row 1 2 3", "set 0 clean x "+does(t, d, "get 0 main tree")[0])
	b, e := d.Depot(0).Export("clean")
	a, f := archive.Read(b)
	if e != api.OK || f.Code != api.OK {
		t.Fatalf("%d, %v", e, f)
	}
	lacking := 0
	for _, x := range a.Blocks {
		if !d.Depot(1).Store().Has(x.Link) {
			lacking++
		}
	}
	if lacking == 0 || lacking == len(a.Blocks) {
		t.Fatalf("%d of %d blocks are lacking", lacking, len(a.Blocks))
	}
	refuses(t, d, "copy 0 none 1 new", api.ErrDepotHead)
	refuses(t, d, "copy 0 clean 1 main", api.ErrDepotHead)
	refuses(t, d, `copy 0 clean 1 ""`, api.ErrDepotName)
	refuses(t, d, `copy 0 none 1 ""`, api.ErrDepotHead)
	refuses(t, d, `copy 0 main 1 main`, api.ErrStoreNone)
	says(t, d, "copy 0 clean 1 new", strconv.Itoa(lacking))
	says(t, d, "copy 0 clean 1 newer", "0")
	says(t, d, "copy 0 clean 0 twin", "0")
	says(t, d, "copy 1 new 0 back", "0")
	for _, row := range []string{"all", "log", "get", "sum"} {
		rest := map[string]string{"all": "", "log": " 9", "get": " tea", "sum": " row 0 3"}[row]
		want := does(t, d, row+" 0 clean"+rest)
		says(t, d, row+" 1 new"+rest, want...)
		says(t, d, row+" 0 twin"+rest, want...)
		says(t, d, row+" 0 back"+rest, want...)
	}
	small := madeOf(t, 2, 5, wide, 4)
	all(t, small, "set 0 a k 1", "set 1 b k 2", "set 1 c k 3")
	refuses(t, small, "copy 0 a 1 a", api.ErrStoreFull)
}

// TestFetch: the first depot's head is made, of the second one's, whatever the workers.
func TestFetch(t *testing.T) {
	for workers := 1; workers <= api.MaxWorkers; workers++ {
		d := made(t)
		all(t, d, "set 0 main tea 3", "append 0 main row 1 2 3")
		n := d.Depot(0).Store().Len()
		refuses(t, d, fmt.Sprintf("fetch 0 new 1 main %d", workers), api.ErrDepotHead)
		refuses(t, d, fmt.Sprintf("fetch 1 new 0 none %d", workers), api.ErrDepotHead)
		refuses(t, d, fmt.Sprintf(`fetch 1 "" 0 main %d`, workers), api.ErrDepotName)
		says(t, d, fmt.Sprintf("fetch 1 new 0 main %d", workers), strconv.Itoa(n))
		refuses(t, d, fmt.Sprintf("fetch 1 new 0 main %d", workers), api.ErrDepotHead)
		says(t, d, fmt.Sprintf("fetch 1 newer 0 main %d", workers), "0")
		says(t, d, fmt.Sprintf("fetch 0 twin 0 main %d", workers), "0")
		for _, name := range []string{"1 new", "1 newer", "0 twin"} {
			says(t, d, "all "+name, does(t, d, "all 0 main")...)
			says(t, d, "log "+name+" 9", does(t, d, "log 0 main 9")...)
		}
		for _, w := range []string{"0", "9", "2147483647"} {
			refuses(t, d, "fetch 1 more 0 main "+w, api.ErrPullPlan)
			refuses(t, d, "fetch 1 new 0 main "+w, api.ErrDepotHead)
		}
	}
}

// TestFormsTold: lay, read and loose: bytes, trees, faults and notes.
func TestFormsTold(t *testing.T) {
	d := made(t)
	for _, v := range sample.Leaves() {
		b, e := lay.Encode(v)
		if e != api.OK {
			t.Fatal(e)
		}
		says(t, d, "lay "+text(v), hex(b))
		says(t, d, "read "+hex(b)+" 0", text(v))
		says(t, d, "loose "+hex(b)+" 0", text(v))
		says(t, d, "read "+hex(append(b, 0))+" 0", fmt.Sprintf("fault 85 %d", len(b)))
		says(t, d, "loose "+hex(append(b, 0))+" 0", fmt.Sprintf("fault 94 %d", len(b)))
	}
	says(t, d, "read # 0", "fault 82 0")
	says(t, d, "loose # 9", "fault 92 0")
	says(t, d, "loose #a2616201780161 9", "fault 92 7")
	says(t, d, "loose #a261620178016102 9", `{"a":2,"b":1}`, "note 1 4", "note 4 4")
	says(t, d, "loose #9f1801f93e00ff 1", "[1,1.5]", "note 2 0", "note 1 1", "note 3 3")
	says(t, d, "loose #f7 0", "fault 95 0")
	says(t, d, "loose #1817 0", "23", "note 1 0")
	says(t, d, "read #1817 0", "fault 84 0")
	for depth, want := range map[int]string{0: "fault 81 0", 1: "fault 81 2", 2: "[1,[2]]", 1024: "[1,[2]]", 1025: "fault 80 0", 1<<31 - 1: "fault 80 0"} {
		says(t, d, fmt.Sprintf("read #82018102 %d", depth), want)
		says(t, d, fmt.Sprintf("loose #82018102 %d", depth), strings.Replace(want, "fault 8", "fault 9", 1))
	}
}

// TestEntriesKept: what stands in the trie is what lines have told, value by value.
func TestEntriesKept(t *testing.T) {
	d := made(t)
	dice := sample.Dice(22)
	for i := range 60 {
		v := dice.Tree(3)
		line := fmt.Sprintf("set 0 main k%d %s", i, text(v))
		if len(line) > api.MaxLine {
			continue
		}
		does(t, d, line)
		says(t, d, fmt.Sprintf("get 0 main k%d", i), text(v))
		l, _ := d.Depot(0).Head("main")
		c, _ := d.Depot(0).Commit(l)
		got, is, e := trie.Get(d.Depot(0).Store(), c.Root, fmt.Appendf(nil, "k%d", i))
		if !is || e != api.OK || text(got) != text(v) {
			t.Errorf("%s: %v, %v, %d", line, got, is, e)
		}
	}
}
