package desk

// W10 to W13: columns, transactions, sweeping, carrying, told by lines and by the depots.

import (
	"fmt"
	"math"
	"slices"
	"strconv"
	"strings"
	"testing"

	"trellis/api"
	"trellis/archive"
	"trellis/number"
	"trellis/sample"
	"trellis/walk"
)

// fold: the sum of a part's samples, from the place from on to the place to, as chapter 15 says: of parts of so many samples each.
func fold(samples []float32, from, to, full, fan int) float64 {
	sum := 0.0
	if full == 1 {
		return float64(samples[0])
	}
	for at := 0; at < len(samples); at += full / fan {
		end := min(at+full/fan, len(samples))
		if max(from, at) < min(to, end) {
			sum = float64(sum + fold(samples[at:end], max(from-at, 0), min(to, end)-at, full/fan, fan))
		}
	}
	return sum
}

// fullOf: how many samples the least part has room for, that holds so many.
func fullOf(n, fan int) int {
	full := fan
	for full < n {
		full *= fan
	}
	return full
}

// anySample: a sample, as a line has it, of any size or a small one.
func anySample(d *sample.Dice) string {
	switch d.Below(6) {
	case 0:
		return "-0"
	case 1:
		return number.Print32(float32(d.Below(9)) / 4)
	}
	for {
		x := math.Float32frombits(uint32(d.Next()))
		if x == x && !math.IsInf(float64(x), 0) {
			return number.Print32(x)
		}
	}
}

// TestColumnRoots (W10): a column's root hangs on its width and its samples alone, in however many pieces they came; sums are the folds, ends the least and the greatest.
func TestColumnRoots(t *testing.T) {
	for width := 1; width <= 4; width++ {
		dice := sample.Dice(100 + width)
		for _, n := range []int{1, 2, 3, 5, 16, 17, 40} {
			d := madeOf(t, 2, 2000, wide, width)
			var words []string
			var samples []float32
			for range n {
				w := anySample(&dice)
				x, e := number.Parse32(w)
				if e != api.OK {
					t.Fatal(e)
				}
				words, samples = append(words, w), append(samples, x)
			}
			does(t, d, "append 0 main row "+lineOf(words...))
			for left := words; len(left) > 0; {
				k := 1 + dice.Below(len(left))
				does(t, d, "append 1 main row "+lineOf(left[:k]...))
				left = left[k:]
			}
			does(t, d, "begin 0")
			for left := words; len(left) > 0; {
				k := 1 + dice.Below(len(left))
				does(t, d, "append 0 side row "+lineOf(left[:k]...))
				left = left[k:]
			}
			does(t, d, "commit 0 x")
			root := does(t, d, "get 0 main row")[0]
			says(t, d, "get 1 main row", root)
			says(t, d, "get 0 side row", root)
			says(t, d, "count 1 main row", strconv.Itoa(n))
			for range 40 {
				from := dice.Below(n + 1)
				to := from + dice.Below(n+1-from)
				part := fmt.Sprintf(" 1 main row %d %d", from, to)
				want := 0.0
				if from < to {
					want = fold(samples, from, to, fullOf(n, 1<<width), 1<<width)
					some := slices.SortedFunc(slices.Values(samples[from:to]), func(a, b float32) int { return number.Compare(float64(a), float64(b)) })
					says(t, d, "ends"+part, lineOf(number.Print32(some[0]), number.Print32(some[len(some)-1])))
				} else {
					refuses(t, d, "ends"+part, api.ErrColumnRange)
				}
				says(t, d, "sum"+part, number.Print(want))
			}
			says(t, d, "check 1", does(t, d, "check 1")[0])
		}
	}
	a, b := madeOf(t, 1, 100, wide, 1), madeOf(t, 1, 100, wide, 2)
	all(t, a, "append 0 main row 1 9007199254740992 1 -9007199254740992")
	all(t, b, "append 0 main row 1 9007199254740992 1 -9007199254740992")
	says(t, a, "sum 0 main row 0 4", "1.0")
	says(t, b, "sum 0 main row 0 4", "0.0")
}

// TestWholeOrNot (W11): a transaction that is refused, at whichever op or for whichever block, leaves heads and blocks as they were.
func TestWholeOrNot(t *testing.T) {
	good := []string{"set 0 main x 1", "append 0 main row 9 9 9", "branch 0 new side", "set 0 other k 1", "delete 0 main tea", "merge 0 main side theirs", "drop 0 side"}
	for bad, want := range map[string]api.Errno{
		"drop 0 none": api.ErrDepotHead, "branch 0 main main": api.ErrDepotHead, "append 0 main tree 1": api.ErrColumnNode, `append 0 main "a b" 1`: api.ErrDepotRow,
		"merge 0 main none": api.ErrDepotHead, `set 0 "" k 1`: api.ErrDepotName, "set 0 main k " + strings.Repeat("[", 513) + strings.Repeat("]", 513): api.ErrTrieValue,
		"set 0 main away " + named(lost("x")): api.OK, "delete 0 none k": api.ErrDepotHead,
	} {
		for i := range len(good) + 1 {
			d := rich(t)
			before := state(d)
			all(t, d, append([]string{"begin 0"}, slices.Insert(slices.Clone(good), i, bad)...)...)
			l, e := d.Say("commit 0 x")
			if e != want || (e != api.OK) != (state(d) == before) || e != api.OK && l != nil {
				t.Errorf("%s, as op %d: %q, %d; want %d", bad, i, l, e, want)
			}
		}
	}
	// For want of room, as far as that goes.
	full := 0
	for room := 3; ; room++ {
		d := madeOf(t, 1, room, narrow, 1)
		does(t, d, "set 0 main tea 3")
		before := state(d)
		all(t, d, "begin 0", "set 0 main a 1", "append 0 main row 1 2 3 4 5", "set 0 new b 1", "branch 0 old main", "delete 0 main a")
		l, e := d.Say("commit 0 x")
		if e == api.OK {
			break
		}
		if e != api.ErrStoreFull || l != nil || state(d) != before {
			t.Fatalf("with room for %d: %q, %d", room, l, e)
		}
		full++
	}
	if full < 5 {
		t.Errorf("%d stores were full", full)
	}
	// For each block that is lost, or forced.
	for _, spoil := range []string{"lose 0 LINK", "force 0 LINK #00"} {
		refused := 0
		for _, l := range rich(t).Depot(0).Store().Links() {
			d := rich(t)
			does(t, d, strings.Replace(spoil, "LINK", named(l), 1))
			before := state(d)
			all(t, d, append([]string{"begin 0"}, good...)...)
			told, e := d.Say("commit 0 x")
			if e == api.OK {
				continue
			}
			refused++
			if e != api.ErrStoreNone && e != api.ErrStoreBad || told != nil || state(d) != before {
				t.Errorf("%s: %q, %d", spoil, told, e)
			}
		}
		if refused < 5 {
			t.Errorf("%s: %d refused", spoil, refused)
		}
	}
}

// TestSweeping (W12): just what heads reach is left, and they answer as they did; a second sweep deletes nothing.
func TestSweeping(t *testing.T) {
	for i := range 12 {
		dice := sample.Dice(1200 + i)
		d := madeOf(t, 1, 3000, []api.Trie{wide, {Width: 1, Bucket: 1, Bytes: 4}}[i%2], 1)
		m := map[string]string{}
		for j := range 6 {
			name := fmt.Sprint("h", j)
			does(t, d, "set 0 "+name+" a 1")
			sets(t, &dice, d, name, keyPool(), m)
			does(t, d, "append 0 "+name+" row 1 2 3")
			does(t, d, "append 0 "+name+" row 4")
		}
		all(t, d, "merge 0 h0 h1 ours", "drop 0 h2", "drop 0 h3", "set 0 h4 hold "+headOf(t, d, 0, "h5"), "drop 0 h5")
		var raw []string
		for j := range 3 {
			b := []byte{byte(j)}
			raw = append(raw, named(under(api.CodecRaw, b)))
			does(t, d, lineOf("force 0", raw[j], hex(b)))
		}
		does(t, d, "set 0 h4 raw "+raw[1])
		lines := []string{"heads 0", "check 0"}
		for _, name := range []string{"h0", "h1", "h4", "h2"} {
			lines = append(lines, "all 0 "+name, "log 0 "+name+" 99", "count 0 "+name+" row", "sum 0 "+name+" row 1 3", "ends 0 "+name+" row 0 4", "get 0 "+name+" a", "prove 0 "+name+" a")
		}
		before := answers(d, lines...)
		stood := d.Depot(0).Store().Len()
		gone, e := strconv.Atoi(does(t, d, "sweep 0")[0])
		if e != nil || gone < 4 || d.Depot(0).Store().Len() != stood-gone {
			t.Errorf("%d of %d blocks were deleted, %d are left", gone, stood, d.Depot(0).Store().Len())
		}
		if now := answers(d, lines...); now != before {
			t.Errorf("behind a sweep:\n%s\nahead of it:\n%s", now, before)
		}
		var roots []api.Link
		for _, name := range d.Depot(0).Heads() {
			l, _ := d.Depot(0).Head(name)
			roots = append(roots, l)
		}
		there, lacking, errno := walk.Reach(d.Depot(0).Store(), roots...)
		if errno != api.OK || len(lacking) > 0 || !slices.Equal(there, d.Depot(0).Store().Links()) {
			t.Errorf("%d are there, %d lacking; %d stand; %d", len(there), len(lacking), d.Depot(0).Store().Len(), errno)
		}
		says(t, d, "lose 0 "+raw[0], "no")
		says(t, d, "sweep 0", "0")
		says(t, d, "lose 0 "+raw[1], "yes")
	}
}

// TestCarrying (W13): what was copied or fetched answers there as here.
func TestCarrying(t *testing.T) {
	for i := range 10 {
		dice := sample.Dice(1300 + i)
		d := madeOf(t, 3, 3000, []api.Trie{wide, {Width: 1, Bucket: 1, Bytes: 4}}[i%2], 1)
		does(t, d, "set 0 main a 1")
		m := sets(t, &dice, d, "main", keyPool(), map[string]string{"a": "1"})
		does(t, d, "branch 0 side main")
		sets(t, &dice, d, "main", keyPool(), m)
		sets(t, &dice, d, "side", keyPool(), m)
		all(t, d, "append 0 main row 1 2 3 4 5", "append 0 main row 6", "merge 0 main side ours", "set 1 other a 1", "append 1 other row 1 2 3 4 5 6")
		does(t, d, "copy 0 main 1 copied")
		does(t, d, fmt.Sprintf("fetch 2 fetched 0 main %d", 1+i%8))
		does(t, d, "fetch 2 again 1 copied 3")
		says(t, d, "copy 2 fetched 0 back", "0")
		lines := []string{"all X", "log X 99", "count X row", "sum X row 0 6", "sum X row 1 4", "ends X row 0 6", "diff X NAME", "prove X row"}
		for _, key := range keyPool() {
			lines = append(lines, "get X "+keyWord(key), "prove X "+keyWord(key))
		}
		for _, there := range []string{"1 copied", "2 fetched", "2 again", "0 back"} {
			digit, name, _ := strings.Cut(there, " ")
			for _, line := range lines {
				line = strings.Replace(line, "NAME", name, 1)
				here := strings.Replace(strings.Replace(line, name, "main", 1), "X", "0 main", 1)
				if a, b := answer(d, here), answer(d, strings.Replace(line, "X", there, 1)); a != b {
					t.Errorf("%s: %s; of %s: %s", here, a, there, b)
				}
			}
			n, _ := strconv.Atoi(digit)
			if headOf(t, d, n, name) != headOf(t, d, 0, "main") {
				t.Errorf("%s is another commit", there)
			}
			says(t, d, fmt.Sprintf("set %s more 1", there), quoted(name))
		}
		does(t, d, "set 0 main more 1")
		for n := range 3 {
			does(t, d, fmt.Sprintf("check %d", n))
		}
	}
}

// TestOneByte (W13): an archive of which one byte is another one is refused, and changes nothing, or holds the same blocks.
func TestOneByte(t *testing.T) {
	d := madeOf(t, 2, 1000, wide, 4)
	all(t, d, "set 0 main tea 3", "append 0 main row 1 2", "set 0 main tree [1,{}]")
	b, e := d.Depot(0).Export("main")
	file, f := archive.Read(b)
	if e != api.OK || f.Code != api.OK {
		t.Fatalf("%d, %v", e, f)
	}
	for i := range b {
		for _, bit := range []byte{1, 0x80, 0xff} {
			other := slices.Clone(b)
			other[i] ^= bit
			a, f := archive.Read(other)
			if f.Code == api.OK && fmt.Sprint(a.Blocks) != fmt.Sprint(file.Blocks) {
				t.Errorf("byte %d: other blocks", i)
			}
			if n, g := d.Depot(1).Import("main", other); g.Code == api.OK {
				t.Errorf("byte %d: %d blocks were laid", i, n)
			}
		}
	}
	says(t, d, "blocks 1", "0 0")
	says(t, d, "heads 1")
	says(t, d, "copy 0 main 1 main", strconv.Itoa(len(file.Blocks)))
}
