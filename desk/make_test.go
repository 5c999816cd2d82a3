package desk

// Desks, what they are, and lines for the tests.

import (
	"fmt"
	"slices"
	"strconv"
	"strings"
	"testing"

	"trellis/api"
	"trellis/depot"
	"trellis/lay"
	"trellis/link"
	"trellis/note"
	"trellis/sample"
	"trellis/store"
)

// wide: the widths of the chapter's examples.
var wide = api.Trie{Width: 5, Bucket: 3, Bytes: 4}

// narrow: others, by which few keys make a deep trie, and two may have one path.
var narrow = api.Trie{Width: 2, Bucket: 1, Bytes: 1}

// madeOf: a desk on which nothing has been said.
func madeOf(t *testing.T, depots, room int, c api.Trie, width int) *Desk {
	t.Helper()
	d, e := New(depots, room, c, width)
	if e != api.OK {
		t.Fatal(e)
	}
	return d
}

// made: the desk of the chapter's examples.
func made(t *testing.T) *Desk {
	t.Helper()
	return madeOf(t, 2, 1000, wide, 4)
}

// does says a line that is not refused; what it tells.
func does(t *testing.T, d *Desk, line string) []string {
	t.Helper()
	l, e := d.Say(line)
	if e != api.OK {
		t.Fatalf("%.200s: %q, %d", line, l, e)
	}
	return l
}

// says says a line that is not refused, and tells just that.
func says(t *testing.T, d *Desk, line string, want ...string) {
	t.Helper()
	if l := does(t, d, line); !slices.Equal(l, want) {
		t.Errorf("%.200s: %q; want %q", line, l, want)
	}
}

// refuses says a line that is refused by that error: it tells nothing and changes nothing.
func refuses(t *testing.T, d *Desk, line string, want api.Errno) {
	t.Helper()
	before := state(d)
	l, e := d.Say(line)
	if e != want || l != nil {
		t.Errorf("%.200s: %q, %d; want %d", line, l, e, want)
	}
	if now := state(d); now != before {
		t.Errorf("%.200s: refused by %d, it has changed the desk:\n%s\n%s", line, e, before, now)
	}
}

// all says lines, none of which is refused; what the last one tells.
func all(t *testing.T, d *Desk, lines ...string) (last []string) {
	t.Helper()
	for _, line := range lines {
		last = does(t, d, line)
	}
	return last
}

// state: all that a desk is.
func state(d *Desk) string {
	var text strings.Builder
	for _, s := range d.row {
		fmt.Fprintf(&text, "%s%v%+v\n", held(s.Depot), s.gathers, s.ops)
	}
	return text.String()
}

// held: all that a depot is: its heads, what stands in its store.
func held(d *depot.Depot) string {
	var text strings.Builder
	for _, name := range d.Heads() {
		l, _ := d.Head(name)
		fmt.Fprintf(&text, "%q: %v\n", name, l)
	}
	return text.String() + standing(d.Store())
}

// standing: what stands in a store, right or not, and how much it is.
func standing(s *store.Store) string {
	var text strings.Builder
	fmt.Fprintln(&text, s.Len(), s.Size(), s.Room())
	for _, l := range s.Links() {
		b, e := s.Get(l)
		fmt.Fprintf(&text, "%v: %x %d\n", l, b, e)
	}
	return text.String()
}

// answer: what a line answers, as one text.
func answer(d *Desk, line string) string {
	l, e := d.Say(line)
	return fmt.Sprintf("%q %d", l, e)
}

// answers: what some lines answer, as one text.
func answers(d *Desk, lines ...string) string {
	var texts []string
	for _, line := range lines {
		texts = append(texts, answer(d, line))
	}
	return strings.Join(texts, "\n")
}

// text: a tree's text.
func text(v api.Value) string {
	s, e := note.Print(v)
	if e != api.OK {
		panic(e)
	}
	return s
}

// named: the text of a link, as a line has it.
func named(l api.Link) string { return text(api.Value{Kind: api.KindLink, Link: l}) }

// hex: bytes, as a line has them.
func hex(b []byte) string { return fmt.Sprintf("#%x", b) }

// quoted: a text in note's notation.
func quoted(s string) string { return text(sample.Text(s)) }

// treeOfText: the tree of a text.
func treeOfText(t *testing.T, s string) api.Value {
	t.Helper()
	v, f := note.Parse(s, api.MaxDepth)
	if f.Code != api.OK {
		t.Fatalf("%s: %v", s, f)
	}
	return v
}

// linkOfText: the link of a word.
func linkOfText(t *testing.T, s string) api.Link {
	t.Helper()
	return treeOfText(t, s).Link
}

// formOf: the form of a tree.
func formOf(v api.Value) []byte {
	b, e := lay.Encode(v)
	if e != api.OK {
		panic(e)
	}
	return b
}

// under: the link of version 1 that a codec and bytes have.
func under(codec uint64, b []byte) api.Link {
	l, e := link.Of(codec, b)
	if e != api.OK {
		panic(e)
	}
	return l
}

// lost: a link of a tree under which nothing stands.
func lost(name string) api.Link { return under(api.CodecTree, formOf(sample.Text(name))) }

// put lays a tree block into a store.
func put(t *testing.T, s *store.Store, v api.Value) api.Link {
	t.Helper()
	l, e := s.Put(api.CodecTree, formOf(v))
	if e != api.OK {
		t.Fatal(e)
	}
	return l
}

// headOf: the commit of a head, as a line has it.
func headOf(t *testing.T, d *Desk, i int, name string) string {
	t.Helper()
	l, is := d.Depot(i).Head(name)
	if !is {
		t.Fatalf("depot %d has no head %q", i, name)
	}
	return named(l)
}

// rootOf: the root of a head's map, as log tells it.
func rootOf(t *testing.T, d *Desk, i int, name string) string {
	t.Helper()
	l := does(t, d, lineOf("log", strconv.Itoa(i), name, "1"))
	return strings.Fields(l[0])[1]
}

// rich: a desk with heads that have been branched and merged, a column, values of all kinds, links to blocks, keys that are no texts.
func rich(t *testing.T) *Desk {
	t.Helper()
	d := made(t)
	tree := named(put(t, d.Depot(0).Store(), sample.List(sample.Whole(7))))
	all(t, d,
		"set 0 main tea 3", `set 0 main "a b" {"b":[1,-2.5,null],"a":#00ff}`, "set 0 main #00ff true", "set 0 main # \"\\n\"",
		"append 0 main row 1.5 2 -0.25 -0 1e-40", "append 0 main row 3 4 5", "set 0 main tree "+tree,
		"branch 0 side main", "set 0 side tea 4", "delete 0 side #00ff", "set 0 main milk 5", "merge 0 main side",
		"set 0 side text \"none\"", "begin 0", "set 0 side x 1", "append 0 side row 7", "commit 0 \"two at once\"",
		"set 1 main tea 3", "set 1 other x 1",
	)
	return d
}

// pick: one of a list.
func pick[T any](d *sample.Dice, list []T) T { return list[d.Below(len(list))] }
