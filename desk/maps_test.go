package desk

// W5 to W9: maps by their roots, earlier and forged ones, differences, merges, proofs, told by lines.

import (
	"crypto/sha256"
	"fmt"
	"maps"
	"slices"
	"strings"
	"testing"

	"trellis/api"
	"trellis/archive"
	"trellis/read"
	"trellis/sample"
	"trellis/store"
	"trellis/trie"
	"trellis/value"
)

// pathOf: the bytes of a key's path.
func pathOf(key string) [32]byte { return sha256.Sum256([]byte(key)) }

// slicesOf: the slices of a key, as one text.
func slicesOf(c api.Trie, key string) string {
	bits := ""
	for _, b := range pathOf(key) {
		bits += fmt.Sprintf("%08b", b)
	}
	return bits[:8*c.Bytes/c.Width*c.Width]
}

// mayBeMap: whether a trie may have these keys.
func mayBeMap(c api.Trie, m map[string]string) bool {
	count := map[string]int{}
	for key := range m {
		count[slicesOf(c, key)]++
		if count[slicesOf(c, key)] > c.Bucket {
			return false
		}
	}
	return true
}

// keyPool: keys, some of one path where that has one byte.
func keyPool() []string {
	p, q := onePath()
	list := []string{"a", "b", "c", "", "\xff", "a b", p, q}
	for i := range 12 {
		list = append(list, fmt.Sprint("key", i))
	}
	return list
}

// keyWord: a key, as a line has it.
func keyWord(key string) string { return plainKey([]byte(key)) }

// rootOfMap: the root of a map, made by other lines: all of it in a few commits, from the last key on.
func rootOfMap(t *testing.T, c api.Trie, m map[string]string) string {
	t.Helper()
	d := madeOf(t, 1, 2000, c, 4)
	// A head stands, though its map may be empty.
	all(t, d, "set 0 main gone 1", "delete 0 main gone", "begin 0")
	keys := slices.Sorted(maps.Keys(m))
	slices.Reverse(keys)
	for _, key := range keys {
		does(t, d, lineOf("set 0 main", keyWord(key), m[key]))
	}
	does(t, d, `commit 0 "all of it"`)
	return rootOf(t, d, 0, "main")
}

// linesOfMap: what all tells of a map, sorted.
func linesOfMap(m map[string]string) []string {
	var lines []string
	for key, tree := range m {
		lines = append(lines, keyWord(key)+" "+tree)
	}
	slices.Sort(lines)
	return lines
}

// sorted: what a line tells, sorted.
func sorted(t *testing.T, d *Desk, line string) []string {
	t.Helper()
	l := does(t, d, line)
	slices.Sort(l)
	return l
}

// mapWidths: widths by which tries are deep, flat, and with room for many keys of one path, or for one.
func mapWidths() []api.Trie {
	return []api.Trie{narrow, {Width: 1, Bucket: 1, Bytes: 1}, {Width: 3, Bucket: 2, Bytes: 1}, {Width: 8, Bucket: 1, Bytes: 1}, {Width: 1, Bucket: 1, Bytes: 32}, wide}
}

// changesOfMap says a line that changes a map, and does the same to m; whether it was refused, as it is to be.
func changesOfMap(t *testing.T, dice *sample.Dice, d *Desk, c api.Trie, pool []string, m map[string]string) bool {
	t.Helper()
	key := pick(dice, pool)
	if dice.Below(3) == 0 {
		delete(m, key)
		does(t, d, lineOf("delete 0 main", keyWord(key)))
		return false
	}
	tree := text(dice.Tree(1))
	before, was := m[key]
	m[key] = tree
	line := lineOf("set 0 main", keyWord(key), tree)
	if mayBeMap(c, m) {
		does(t, d, line)
		return false
	}
	refuses(t, d, line, api.ErrTrieDepth)
	delete(m, key)
	if was {
		m[key] = before
	}
	return true
}

// TestOneTrie (W5): a root hangs on widths and map alone, whatever was set, deleted, refused, gathered and cancelled.
func TestOneTrie(t *testing.T) {
	refused := 0
	for i, c := range mapWidths() {
		dice := sample.Dice(50 + i)
		d := madeOf(t, 1, 2000, c, 4)
		m := map[string]string{}
		all(t, d, "set 0 main gone 1", "delete 0 main gone")
		for step := range 100 {
			if changesOfMap(t, &dice, d, c, keyPool(), m) {
				refused++
			}
			if step%9 == 0 {
				all(t, d, "begin 0", "set 0 main away 1", "delete 0 main a", "cancel 0")
				refuses(t, d, "set 0 main away "+strings.Repeat("[", 600)+strings.Repeat("]", 600), api.ErrTrieValue)
				if got, want := rootOf(t, d, 0, "main"), rootOfMap(t, c, m); got != want {
					t.Fatalf("%+v, step %d: root %s; of the same map %s", c, step, got, want)
				}
				if l := sorted(t, d, "all 0 main"); !slices.Equal(l, linesOfMap(m)) {
					t.Fatalf("%+v: %q; want %q", c, l, linesOfMap(m))
				}
			}
			if step%20 == 19 {
				does(t, d, "sweep 0")
			}
		}
	}
	if refused < 20 {
		t.Errorf("%d sets were refused", refused)
	}
	if a, b := rootOfMap(t, wide, nil), rootOfMap(t, narrow, nil); a == b {
		t.Error("tries of unlike widths have one root")
	}
}

// TestEarlierRoots (W6): each commit's map, and each branch, as it was, whatever was done behind it.
func TestEarlierRoots(t *testing.T) {
	for i, c := range []api.Trie{narrow, wide} {
		dice := sample.Dice(60 + i)
		d := madeOf(t, 1, 3000, c, 4)
		m := map[string]string{}
		were := map[string][]string{}
		heads := map[string][]string{}
		for step := range 60 {
			changesOfMap(t, &dice, d, c, keyPool(), m)
			if _, is := d.Depot(0).Head("main"); !is {
				continue
			}
			were[rootOf(t, d, 0, "main")] = linesOfMap(m)
			if step%10 == 0 {
				name := fmt.Sprint("at", step)
				does(t, d, "branch 0 "+name+" main")
				heads[name] = linesOfMap(m)
			}
			if step%15 == 14 {
				all(t, d, "append 0 other row 1 2 3", "drop 0 other", "sweep 0")
			}
		}
		for _, line := range does(t, d, "log 0 main 999") {
			root := strings.Fields(line)[1]
			entries, e := trie.Entries(d.Depot(0).Store(), linkOfText(t, root))
			var lines []string
			for _, x := range entries {
				lines = append(lines, plainKey(x.Key)+" "+text(x.Value))
			}
			slices.Sort(lines)
			if e != api.OK || !slices.Equal(lines, were[root]) {
				t.Errorf("%s: %q, %d; it was %q", root, lines, e, were[root])
			}
		}
		for name, want := range heads {
			if l := sorted(t, d, "all 0 "+name); !slices.Equal(l, want) {
				t.Errorf("%s: %q; it was %q", name, l, want)
			}
		}
	}
}

// forged lays a node of a trie again, with something in it, or in one below it, made another thing.
func forged(t *testing.T, dice *sample.Dice, s *store.Store, l api.Link) api.Link {
	t.Helper()
	b, _ := s.Get(l)
	v, _ := read.Decode(b, api.MaxDepth)
	if len(v.Items) < 2 {
		return l
	}
	elements := v.Items[len(v.Items)-1].Items
	below := slices.DeleteFunc(slices.Clone(elements), func(x api.Value) bool { return x.Kind != api.KindLink })
	if len(below) > 0 && dice.Below(3) > 0 {
		old := pick(dice, below).Link
		next := forged(t, dice, s, old)
		for i := range elements {
			if elements[i].Kind == api.KindLink && elements[i].Link == old {
				elements[i].Link = next
			}
		}
		return put(t, s, v)
	}
	bits := v.Items[len(v.Items)-2].Bytes
	switch dice.Below(8) {
	case 0:
		bits[dice.Below(len(bits))] ^= 1 << dice.Below(8)
	case 1:
		if len(elements) > 0 {
			v.Items[len(v.Items)-1].Items = elements[1:]
		}
	case 2:
		if n := len(elements); n > 0 {
			i, j := dice.Below(n), dice.Below(n)
			elements[i], elements[j] = elements[j], elements[i]
		}
	case 3:
		if len(below) > 0 {
			elements[len(elements)-1] = pick(dice, below)
		}
	case 4:
		// A node in the place of a bucket: right by itself, but it should be a bucket.
		if len(elements) > 0 && elements[0].Kind == api.KindList {
			elements[0] = nodeOf(t, s, v, elements[0], len(v.Items) == 6)
		}
	case 5, 6:
		// Another value: the map is another one, and as good.
		for _, x := range elements {
			if x.Kind == api.KindList && len(x.Items) > 0 && len(x.Items[0].Items) == 2 {
				x.Items[0].Items[1] = sample.Text("another")
				break
			}
		}
	default:
		if x := dice.Touched(v); value.Check(x) == api.OK {
			v = x
		}
	}
	return put(t, s, v)
}

// nodeOf: the node of a bucket of one entry beneath a root, laid; the bucket itself, where that is not at hand.
func nodeOf(t *testing.T, s *store.Store, root, bucket api.Value, isRoot bool) api.Value {
	t.Helper()
	if !isRoot || len(bucket.Items) != 1 {
		return bucket
	}
	c := api.Trie{Width: int(root.Items[1].N), Bucket: int(root.Items[2].N), Bytes: int(root.Items[3].N)}
	path := slicesOf(c, string(bucket.Items[0].Items[0].Bytes))
	if len(path) < 2*c.Width {
		return bucket
	}
	slice := 0
	for _, bit := range path[c.Width : 2*c.Width] {
		slice = slice<<1 | int(bit-'0')
	}
	bits := make([]byte, max(1, 1<<c.Width/8))
	bits[slice/8] |= 1 << (slice % 8)
	l := put(t, s, sample.List(api.Value{Kind: api.KindBytes, Bytes: bits}, sample.List(bucket)))
	return api.Value{Kind: api.KindLink, Link: l}
}

// brings makes a head of a map, whatever its root is; false, if its root reaches what is lost.
func brings(t *testing.T, d *Desk, i int, name string, s *store.Store, root api.Link) bool {
	t.Helper()
	l := put(t, s, sample.Map("at from note root", sample.Whole(1), sample.List(), sample.Text("brought"), api.Value{Kind: api.KindLink, Link: root}))
	b, e := archive.Write(s, []api.Link{l})
	if e != api.OK {
		return false
	}
	if _, f := d.Depot(i).Import(name, b); f.Code != api.OK {
		t.Fatal(f)
	}
	return true
}

// TestForged (W7): a map is taken by check just if its tree of blocks is a map's own; then all lines tell that map.
func TestForged(t *testing.T) {
	taken, barred := 0, map[string]int{}
	pool := keyPool()
	for i := range 450 {
		dice := sample.Dice(7000 + i)
		c := mapWidths()[i%4]
		from := madeOf(t, 1, 500, c, 4)
		m := map[string]string{}
		all(t, from, "set 0 main gone 1", "delete 0 main gone")
		for range 4 + dice.Below(8) {
			changesOfMap(t, &dice, from, c, pool, m)
		}
		if len(m) == 0 {
			continue
		}
		s := from.Depot(0).Store().Copy()
		root := forged(t, &dice, s, linkOfText(t, rootOf(t, from, 0, "main")))
		d := madeOf(t, 1, 500, c, 4)
		if !brings(t, d, 0, "bad", s, root) {
			continue
		}
		check := answer(d, "check 0")
		lines, e := d.Say("all 0 bad")
		own := map[string]string{}
		entries, _ := d.Depot(0).Entries("bad")
		for j, x := range entries {
			own[string(x.Key)] = text(x.Value)
			if want := keyWord(string(x.Key)) + " " + text(x.Value); lines[j] != want {
				t.Errorf("%s; want %s", lines[j], want)
			}
		}
		right := e == api.OK && mayBeMap(c, own) && rootOfMap(t, c, own) == named(root)
		if right != (check == `["1"] 0`) {
			t.Fatalf("forged %d: check says %s; all: %q, %d", i, check, lines, e)
		}
		if !right {
			barred[check]++
			for _, key := range pool {
				word := keyWord(key)
				answers(d, "get 0 bad "+word, "prove 0 bad "+word, "set 0 bad "+word+" 1", "delete 0 bad "+word, "append 0 bad "+word+" 1", "diff 0 bad bad", "branch 0 b bad", "merge 0 bad b", "copy 0 bad 0 c", "sweep 0", "count 0 bad "+word)
			}
			continue
		}
		taken++
		for _, key := range pool {
			want, is := own[key]
			if !is {
				want = "none"
			}
			says(t, d, "get 0 bad "+keyWord(key), want)
		}
		does(t, d, "set 0 bad b [7]")
		own["b"] = "[7]"
		if mayBeMap(c, own) && rootOf(t, d, 0, "bad") != rootOfMap(t, c, own) {
			t.Errorf("forged %d: a set makes another root than that of the map", i)
		}
	}
	if taken < 50 || barred[fmt.Sprintf("[] %d", api.ErrTrieNode)] < 50 || barred[fmt.Sprintf("[] %d", api.ErrTrieForm)] < 5 {
		t.Errorf("%d were taken; barred: %v", taken, barred)
	}
}

// TestPathAlone (W7): what a line tells or does of a key hangs on the blocks on its path alone.
func TestPathAlone(t *testing.T) {
	for _, key := range keyPool()[:8] {
		d, whole := madeOf(t, 1, 500, narrow, 4), madeOf(t, 1, 500, narrow, 4)
		for _, x := range []*Desk{d, whole} {
			for i, key := range keyPool() {
				x.Say(fmt.Sprintf("set 0 main %s %d", keyWord(key), i))
			}
		}
		kept := map[string]int{headOf(t, d, 0, "main"): 1}
		for _, b := range does(t, d, "prove 0 main "+keyWord(key)) {
			kept[named(under(api.CodecTree, octets(t, b)))] = 1
		}
		for _, l := range d.Depot(0).Store().Links() {
			if kept[named(l)] == 0 {
				does(t, d, "lose 0 "+named(l))
			}
		}
		lines := []string{"get 0 main WORD", "prove 0 main WORD", "log 0 main 1", "set 0 main WORD 1", "log 0 main 1", "set 0 main WORD [2]", "get 0 main WORD", "log 0 main 1", "delete 0 main WORD", "set 0 main WORD 3"}
		for _, line := range lines {
			line = strings.Replace(line, "WORD", keyWord(key), 1)
			got, want := answer(d, line), answer(whole, line)
			if strings.HasPrefix(line, "delete") {
				// What becomes a bucket again takes a block beside the path.
				break
			}
			if got != want {
				t.Errorf("%s by the path alone: %s; else %s", line, got, want)
			}
		}
	}
}

// sets says lines that make a head's map of another one: some keys set, some deleted.
func sets(t *testing.T, dice *sample.Dice, d *Desk, name string, pool []string, m map[string]string) map[string]string {
	t.Helper()
	m = maps.Clone(m)
	for range 1 + dice.Below(8) {
		key := pick(dice, pool)
		if dice.Below(3) == 0 {
			delete(m, key)
			does(t, d, lineOf("delete 0", name, keyWord(key)))
			continue
		}
		m[key] = fmt.Sprint(dice.Below(3))
		does(t, d, lineOf("set 0", name, keyWord(key), m[key]))
	}
	return m
}

// TestChanges (W8): the lines of a difference, carried out on the first map, make the second one.
func TestChanges(t *testing.T) {
	pool := slices.DeleteFunc(keyPool(), func(key string) bool { return strings.Contains(key, " ") })
	for i := range 60 {
		dice := sample.Dice(800 + i)
		d := madeOf(t, 1, 1000, []api.Trie{wide, {Width: 2, Bucket: 2, Bytes: 4}}[i%2], 4)
		does(t, d, "set 0 main a 1")
		a := sets(t, &dice, d, "main", pool, map[string]string{"a": "1"})
		does(t, d, "branch 0 other main")
		b := sets(t, &dice, d, "other", pool, a)
		does(t, d, "branch 0 patched main")
		var want []string
		for _, key := range slices.Sorted(maps.Keys(unionOf(a, b))) {
			if a[key] != b[key] {
				want = append(want, lineOf(keyWord(key), orNot(a[key]), orNot(b[key])))
			}
		}
		lines := does(t, d, "diff 0 main other")
		if !slices.Equal(lines, want) {
			t.Fatalf("diff: %q; want %q", lines, want)
		}
		does(t, d, "begin 0")
		for _, line := range lines {
			words := strings.Fields(line)
			if words[2] == "none" {
				does(t, d, lineOf("delete 0 patched", words[0]))
			} else {
				does(t, d, lineOf("set 0 patched", words[0], words[2]))
			}
		}
		does(t, d, "commit 0 patch")
		if rootOf(t, d, 0, "patched") != rootOf(t, d, 0, "other") {
			t.Errorf("%q, carried out, make another root", lines)
		}
		says(t, d, "diff 0 patched other")
		if (len(lines) == 0) != (rootOf(t, d, 0, "main") == rootOf(t, d, 0, "other")) {
			t.Errorf("%q between the roots", lines)
		}
	}
}

func unionOf(some ...map[string]string) map[string]string {
	all := map[string]string{}
	for _, m := range some {
		maps.Copy(all, m)
	}
	return all
}

func orNot(s string) string {
	if s == "" {
		return "none"
	}
	return s
}

// TestMerges (W8): a merge is by each key's three values.
func TestMerges(t *testing.T) {
	pool, clashed := keyPool(), 0
	for i := range 90 {
		dice := sample.Dice(900 + i)
		d := madeOf(t, 1, 1000, []api.Trie{wide, {Width: 2, Bucket: 2, Bytes: 4}}[i%2], 4)
		does(t, d, "set 0 main a 1")
		base := sets(t, &dice, d, "main", pool, map[string]string{"a": "1"})
		does(t, d, "branch 0 side main")
		ours, theirs := sets(t, &dice, d, "main", pool, base), sets(t, &dice, d, "side", pool, base)
		if headOf(t, d, 0, "main") == headOf(t, d, 0, "side") {
			continue
		}
		way := []string{"", "ours", "theirs"}[i%3]
		want, clash := map[string]string{}, false
		for key := range unionOf(base, ours, theirs) {
			x := ours[key]
			if ours[key] == base[key] {
				x = theirs[key]
			} else if theirs[key] != base[key] && theirs[key] != ours[key] {
				clash = true
				if way == "theirs" {
					x = theirs[key]
				}
			}
			if x != "" {
				want[key] = x
			}
		}
		if clash {
			clashed++
		}
		if clash && way == "" {
			refuses(t, d, "merge 0 main side", api.ErrDepotClash)
			continue
		}
		does(t, d, "merge 0 main side "+way)
		if l := sorted(t, d, "all 0 main"); !slices.Equal(l, linesOfMap(want)) {
			t.Errorf("%q; want %q", l, linesOfMap(want))
		}
		if rootOf(t, d, 0, "main") != rootOfMap(t, api.Trie{Width: []int{5, 2}[i%2], Bucket: []int{3, 2}[i%2], Bytes: 4}, want) {
			t.Error("a merge makes another root than that of the map")
		}
	}
	if clashed < 20 {
		t.Errorf("%d merges clash", clashed)
	}
}

// TestProofs (W9): a proof that is taken tells what get tells, over every store that holds its blocks; altered it is refused, or tells the same.
func TestProofs(t *testing.T) {
	taken, barred := 0, 0
	for i, c := range mapWidths() {
		dice := sample.Dice(9000 + i)
		d := madeOf(t, 1, 1000, c, 4)
		m := map[string]string{}
		all(t, d, "set 0 main gone 1", "delete 0 main gone")
		for range 30 {
			changesOfMap(t, &dice, d, c, keyPool(), m)
		}
		root := rootOf(t, d, 0, "main")
		rows := map[string][]string{}
		for _, key := range keyPool() {
			rows[key] = does(t, d, "prove 0 main "+keyWord(key))
		}
		for _, key := range keyPool() {
			want := orNot(m[key])
			says(t, d, lineOf("verify", root, keyWord(key), lineOf(rows[key]...)), want)
			for range 20 {
				row := slices.Clone(rows[key])
				at := dice.Below(len(row))
				switch dice.Below(5) {
				case 0:
					row = slices.Delete(row, at, at+1)
				case 1:
					row = slices.Insert(row, at, row[dice.Below(len(row))])
				case 2:
					row = rows[pick(&dice, keyPool())]
				case 3:
					row[at] = hex(altered(&dice, octets(t, row[at])))
				default:
					row = append(row, "#")
				}
				line := lineOf("verify", root, keyWord(key), lineOf(row...))
				if len(row) == 0 || len(line) > api.MaxLine {
					continue
				}
				l, e := d.Say(line)
				if e == api.OK && l[0] != want {
					t.Errorf("%s: %q; get tells %s", line, l, want)
				}
				if e != api.OK {
					barred++
					continue
				}
				taken++
				s, _ := store.New(100)
				for _, b := range row {
					if _, e := s.Put(api.CodecTree, octets(t, b)); e != api.OK {
						t.Fatal(e)
					}
				}
				v, is, e := trie.Get(s, linkOfText(t, root), []byte(key))
				if e != api.OK || plainNone(v, is) != want {
					t.Errorf("%s: over its blocks alone %v, %v, %d", line, v, is, e)
				}
			}
		}
	}
	if taken < 50 || barred < 500 {
		t.Errorf("%d were taken, %d refused", taken, barred)
	}
}
