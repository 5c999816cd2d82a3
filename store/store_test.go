package store

import (
	"bytes"
	"fmt"
	"slices"
	"strings"
	"testing"

	"trellis/api"
	"trellis/link"
	"trellis/sample"
)

// made tells an empty store.
func made(t *testing.T, room int) *Store {
	t.Helper()
	s, e := New(room)
	if e != api.OK || s == nil {
		t.Fatalf("New(%d): %v, %d", room, s, e)
	}
	return s
}

// filled tells a store in which these blocks stand, right or not.
func filled(t *testing.T, room int, list ...api.Block) *Store {
	t.Helper()
	s := made(t, room)
	for _, x := range list {
		if e := s.Force(x.Link, x.Bytes); e != api.OK {
			t.Fatalf("Force(%x): %d", x, e)
		}
	}
	return s
}

// has: is what Get tells this?
func has(t *testing.T, s *Store, l api.Link, b string, e api.Errno) {
	t.Helper()
	if x, f := s.Get(l); string(x) != b || f != e {
		t.Errorf("Get(%x): %.40q, %d; want %.40q, %d", l, x, f, b, e)
	}
}

// counts: are these its Len and its Size?
func counts(t *testing.T, s *Store, length, size int) {
	t.Helper()
	if s.Len() != length || s.Size() != size {
		t.Errorf("Len %d, Size %d; want %d, %d", s.Len(), s.Size(), length, size)
	}
}

// adds: does Add tell this?
func adds(t *testing.T, s *Store, n int, e api.Errno, list ...api.Block) {
	t.Helper()
	if m, f := s.Add(list...); m != n || f != e {
		t.Errorf("Add(%s): %d, %d; want %d, %d", shown(list), m, f, n, e)
	}
}

// refuses: does Add refuse this, and change nothing?
func refuses(t *testing.T, s *Store, e api.Errno, list ...api.Block) {
	t.Helper()
	was := whole(s)
	adds(t, s, 0, e, list...)
	if is := whole(s); is != was {
		t.Errorf("Add(%s) is refused and leaves %s; there was %s", shown(list), is, was)
	}
}

// TestExamples: the chapter's.
func TestExamples(t *testing.T) {
	s, x, old := made(t, 2), linkOf("a"), oldOf("a")
	for range 2 {
		if l, e := s.Put(0x55, []byte("a")); l != x || e != api.OK {
			t.Errorf("Put: %x, %d", l, e)
		}
		counts(t, s, 1, 1)
	}
	has(t, s, x, "a", api.OK)
	adds(t, s, 0, api.OK, under(x, "a"))
	adds(t, s, 0, api.ErrStoreBad, under(x, "b"))
	if s.Has(old) {
		t.Errorf("version 0 is there")
	}
	adds(t, s, 1, api.OK, under(old, "a"))
	counts(t, s, 2, 2)
	if !s.Delete(old) {
		t.Errorf("Delete of version 0")
	}
	if e := s.Force(x, []byte("bb")); e != api.OK || !s.Has(x) {
		t.Errorf("Force: %d", e)
	}
	has(t, s, x, "", api.ErrStoreBad)
	counts(t, s, 1, 2)
	adds(t, s, 1, api.OK, under(x, "a"))
	has(t, s, x, "a", api.OK)
	if !s.Delete(x) || s.Delete(x) {
		t.Errorf("Delete")
	}
	has(t, s, x, "", api.ErrStoreNone)
	a, b, c := blockOf("a"), blockOf("b"), blockOf("c")
	refuses(t, s, api.ErrStoreFull, a, b, c)
	counts(t, s, 0, 0)
	adds(t, s, 2, api.OK, a, b, a)
	two := a
	two.Link.Version = 2
	refuses(t, s, api.ErrStoreLink, a, two)
	for _, p := range []struct {
		codec uint64
		b     string
		l     api.Link
		e     api.Errno
	}{{0x55, "c", api.Link{}, api.ErrStoreFull}, {0x55, "b", b.Link, api.OK}, {1 << 63, "a", api.Link{}, api.ErrStoreCodec}} {
		if l, e := s.Put(p.codec, []byte(p.b)); l != p.l || e != p.e {
			t.Errorf("Put(%d, %q): %x, %d", p.codec, p.b, l, e)
		}
	}
	if l := s.Links(); len(l) != 2 || !link.Less(l[0], l[1]) || !slices.Contains(l, x) || !slices.Contains(l, b.Link) {
		t.Errorf("Links: %x", l)
	}
	adds(t, s, 0, api.OK)
	hi := api.Link{Version: 1, Codec: 0x55, Digest: "hi"}
	has(t, s, hi, "hi", api.OK)
	refuses(t, s, api.ErrStoreLink, under(hi, "hi"))
	if s.Force(hi, []byte("hi")) != api.ErrStoreLink || s.Has(hi) || s.Delete(hi) {
		t.Errorf("something stands under a link of HashNone")
	}
	has(t, s, api.Link{}, "", api.ErrStoreLink)
}

// TestNew: P13.1, and that nothing stands in a new store.
func TestNew(t *testing.T) {
	for _, room := range []int{-1 << 63, -1 << 32, -65536, -1, 0, 65537, 65538, 1 << 17, 1 << 32, 1<<32 + 1, 1<<63 - 1} {
		if s, e := New(room); s != nil || e != api.ErrStoreRoom {
			t.Errorf("New(%d): %v, %d", room, s, e)
		}
	}
	for _, room := range []int{1, 2, 100, 65535, 65536} {
		s := made(t, room)
		counts(t, s, 0, 0)
		if s.Room() != room || len(s.Links()) != 0 {
			t.Errorf("New(%d): room %d, links %v", room, s.Room(), s.Links())
		}
		for _, l := range allLinks() {
			if s.Has(l) || s.Delete(l) {
				t.Errorf("New(%d): something stands under %x", room, l)
			}
		}
	}
}

// TestPut: P13.2, codecs and their edge, bytes of all lengths.
func TestPut(t *testing.T) {
	s, p := made(t, 1000), &plain{room: 1000}
	for _, codec := range []uint64{0, 1, api.CodecRaw, api.CodecOld, api.CodecTree, 127, 128, 1 << 32, 1<<63 - 2, 1<<63 - 1, 1 << 63, 1<<63 + 1, 1<<63 + api.CodecRaw, 1<<64 - 1} {
		for _, b := range texts {
			l, e := s.Put(codec, []byte(b))
			if want, f := p.put(codec, []byte(b)); l != want || e != f {
				t.Errorf("Put(%d, %q): %x, %d; want %x, %d", codec, b, l, e, want, f)
			}
			if e != api.OK {
				continue
			}
			has(t, s, l, b, api.OK)
			if made, _ := link.Of(codec, []byte(b)); l != made || !link.Holds(l, []byte(b)) {
				t.Errorf("Put(%d, %q): %x is not its link", codec, b, l)
			}
		}
	}
	if is, want := whole(s), wholly(p); is != want {
		t.Errorf("behind all: %s; want %s", is, want)
	}
}

// TestPutFull: P13.2, in a full store: what stands there is taken again, what was forced is mended, another block is refused.
func TestPutFull(t *testing.T) {
	s := filled(t, 2, under(linkOf("a"), "other"), blockOf("b"))
	if l, e := s.Put(api.CodecRaw, []byte("c")); l != (api.Link{}) || e != api.ErrStoreFull {
		t.Errorf("Put in a full store: %x, %d", l, e)
	}
	if l, e := s.Put(api.CodecTree, []byte("b")); l != (api.Link{}) || e != api.ErrStoreFull {
		t.Errorf("Put of another codec: %x, %d", l, e)
	}
	has(t, s, linkOf("a"), "", api.ErrStoreBad)
	for _, b := range []string{"a", "b"} {
		if l, e := s.Put(api.CodecRaw, []byte(b)); l != linkOf(b) || e != api.OK {
			t.Errorf("Put of what stands: %x, %d", l, e)
		}
		has(t, s, linkOf(b), b, api.OK)
	}
	counts(t, s, 2, 2)
}

// faults tells blocks that Add refuses, with their errors, whatever stands.
func faults() map[string]struct {
	x api.Block
	e api.Errno
} {
	type fault = struct {
		x api.Block
		e api.Errno
	}
	all := map[string]fault{
		"other bytes":    {under(linkOf("a"), "b"), api.ErrStoreBad},
		"no bytes":       {under(linkOf("a"), ""), api.ErrStoreBad},
		"a byte more":    {under(linkOf("a"), "a\x00"), api.ErrStoreBad},
		"its own digest": {under(linkOf("a"), sha("a")), api.ErrStoreBad},
		"of version 0":   {under(oldOf("c"), "a"), api.ErrStoreBad},
		"of no bytes":    {under(linkOf(""), "\x00"), api.ErrStoreBad},
	}
	for i, l := range slices.Concat(badLinks(), inlineLinks()) {
		all[fmt.Sprint("a link that does not store ", i)] = fault{under(l, l.Digest), api.ErrStoreLink}
		all[fmt.Sprint("and other bytes ", i)] = fault{under(l, "a"), api.ErrStoreLink}
	}
	return all
}

// TestAddFault: P13.3, a block that is refused stands alone, first, in the middle, last; all or none.
func TestAddFault(t *testing.T) {
	a, b, c := blockOf("a"), blockOf("b"), blockOf("c")
	for name, f := range faults() {
		t.Run(name, func(t *testing.T) {
			for _, room := range []int{1, 2, 9} {
				for _, s := range []*Store{made(t, room), filled(t, room, blockOf("b")), filled(t, room, under(linkOf("a"), "other")), filled(t, room, blockOf("a"))} {
					refuses(t, s, f.e, f.x)
					refuses(t, s, f.e, f.x, a, b, c)
					refuses(t, s, f.e, a, b, f.x, c)
					refuses(t, s, f.e, a, b, c, f.x)
					refuses(t, s, f.e, f.x, f.x)
				}
			}
		})
	}
}

// TestAddFirstFault: P13.3, of two blocks that are refused the first one's error is told, whatever their numbers; ErrStoreFull is behind all.
func TestAddFirstFault(t *testing.T) {
	a := blockOf("a")
	bad, none := under(linkOf("a"), "b"), under(api.Link{}, "a")
	s := filled(t, 1, under(linkOf("z"), "z"))
	refuses(t, s, api.ErrStoreBad, bad, none)
	refuses(t, s, api.ErrStoreLink, none, bad)
	refuses(t, s, api.ErrStoreBad, a, bad, a, none)
	refuses(t, s, api.ErrStoreLink, a, none, a, bad)
	refuses(t, s, api.ErrStoreFull, a)
	refuses(t, s, api.ErrStoreFull, a, a, a)
	refuses(t, s, api.ErrStoreBad, a, blockOf("b"), blockOf("c"), bad)
	refuses(t, s, api.ErrStoreLink, under(api.Link{Version: 1, Codec: 1 << 63, Hash: api.HashSha, Digest: sha("a")}, "b"))
}

// TestAddCount: P13.3, what is told: of each link once, whether other bytes stand there now.
func TestAddCount(t *testing.T) {
	a, b, c, none := blockOf("a"), blockOf("b"), blockOf("c"), blockOf("")
	old := under(oldOf("a"), "a")
	for _, x := range []struct {
		name   string
		room   int
		stands []api.Block
		list   []api.Block
		n      int
		size   int
		e      api.Errno
	}{
		{"none", 1, nil, nil, 0, 0, api.OK},
		{"none into a full one", 1, []api.Block{a}, nil, 0, 1, api.OK},
		{"one", 1, nil, []api.Block{a}, 1, 1, api.OK},
		{"one that stands", 1, []api.Block{a}, []api.Block{a}, 0, 1, api.OK},
		{"one twice", 1, nil, []api.Block{a, a}, 1, 1, api.OK},
		{"one twice that stands", 1, []api.Block{a}, []api.Block{a, a}, 0, 1, api.OK},
		{"one to be mended", 1, []api.Block{under(a.Link, "bb")}, []api.Block{a}, 1, 1, api.OK},
		{"one twice to be mended", 1, []api.Block{under(a.Link, "bb")}, []api.Block{a, a, a}, 1, 1, api.OK},
		{"one without bytes", 1, nil, []api.Block{none}, 1, 0, api.OK},
		{"one without bytes that stands", 1, []api.Block{none}, []api.Block{none}, 0, 0, api.OK},
		{"one without bytes to be mended", 1, []api.Block{under(none.Link, "x")}, []api.Block{none}, 1, 0, api.OK},
		{"one over no bytes", 1, []api.Block{under(a.Link, "")}, []api.Block{a}, 1, 1, api.OK},
		{"two of one digest", 2, nil, []api.Block{a, old}, 2, 2, api.OK},
		{"two of one digest into one place", 1, nil, []api.Block{a, old}, 0, 0, api.ErrStoreFull},
		{"the last place", 2, []api.Block{a}, []api.Block{b}, 1, 2, api.OK},
		{"the last place, twice", 2, []api.Block{a}, []api.Block{b, a, b}, 1, 2, api.OK},
		{"one too many", 2, []api.Block{a}, []api.Block{b, c}, 0, 1, api.ErrStoreFull},
		{"a full one", 2, []api.Block{a, b}, []api.Block{b, a, b}, 0, 2, api.OK},
		{"a full one, and one more", 2, []api.Block{a, b}, []api.Block{a, c}, 0, 2, api.ErrStoreFull},
		{"a full one to be mended", 2, []api.Block{under(a.Link, "b"), b}, []api.Block{a, b}, 1, 2, api.OK},
		{"one to be mended, and one too many", 2, []api.Block{under(a.Link, "bb"), b}, []api.Block{a, c}, 0, 3, api.ErrStoreFull},
		{"some of all", 4, []api.Block{a, under(b.Link, "bb")}, []api.Block{c, a, b, none, c, b}, 3, 3, api.OK},
	} {
		t.Run(x.name, func(t *testing.T) {
			s := filled(t, x.room, x.stands...)
			if x.e != api.OK {
				refuses(t, s, x.e, x.list...)
				return
			}
			adds(t, s, x.n, api.OK, x.list...)
			if s.Size() != x.size {
				t.Errorf("Size %d; want %d", s.Size(), x.size)
			}
			for _, y := range x.list {
				has(t, s, y.Link, string(y.Bytes), api.OK)
			}
			adds(t, s, 0, api.OK, x.list...)
		})
	}
}

// TestClash: P13.3 and R7, by a hash of which many meet: other bytes that a link holds, too, in the store or ahead in the list.
func TestClash(t *testing.T) {
	a, b := linkOf("a"), linkOf("b")
	if a.Digest[0]%2 != 0 || b.Digest[0]%2 != 0 {
		t.Fatalf("by the weak hash the links hold other bytes than this test is of")
	}
	for _, x := range []struct {
		name   string
		stands []api.Block
		list   []api.Block
		n      int
		e      api.Errno
	}{
		{"in the store", []api.Block{under(a, "bb")}, []api.Block{under(a, "b")}, 0, api.ErrStoreClash},
		{"no bytes in the store", []api.Block{under(a, "")}, []api.Block{under(a, "b")}, 0, api.ErrStoreClash},
		{"no bytes in the list", []api.Block{under(a, "b")}, []api.Block{under(a, "")}, 0, api.ErrStoreClash},
		{"the same in the store", []api.Block{under(a, "b")}, []api.Block{under(a, "b")}, 0, api.OK},
		{"in the store, but not held", []api.Block{under(a, "a")}, []api.Block{under(a, "b")}, 1, api.OK},
		{"in the store, under another link", []api.Block{under(oldOf("a"), "bb")}, []api.Block{under(a, "b")}, 1, api.OK},
		{"ahead in the list", nil, []api.Block{under(a, "b"), under(a, "bb")}, 0, api.ErrStoreClash},
		{"ahead in the list, not next", nil, []api.Block{under(a, "b"), under(b, "b"), under(a, "bb")}, 0, api.ErrStoreClash},
		{"ahead in the list, twice", nil, []api.Block{under(a, "b"), under(a, "b"), under(a, "bb")}, 0, api.ErrStoreClash},
		{"ahead in the list, under another link", nil, []api.Block{under(a, "b"), under(b, "bb")}, 2, api.OK},
		{"ahead in the list, and it stands", []api.Block{under(a, "b")}, []api.Block{under(a, "b"), under(a, "bb")}, 0, api.ErrStoreClash},
		{"ahead in the list, and mended", []api.Block{under(a, "a")}, []api.Block{under(a, "b"), under(a, "bb")}, 0, api.ErrStoreClash},
		{"mended twice", []api.Block{under(a, "a")}, []api.Block{under(a, "b"), under(a, "b")}, 1, api.OK},
		{"last", []api.Block{under(a, "bb")}, []api.Block{under(b, "b"), under(a, "b")}, 0, api.ErrStoreClash},
		{"ahead of a full store", []api.Block{under(a, "bb"), blockOf("1"), blockOf("2")}, []api.Block{under(b, "b"), under(a, "b")}, 0, api.ErrStoreClash},
		{"ahead of what is not held", []api.Block{under(a, "bb")}, []api.Block{under(a, "b"), under(b, "a")}, 0, api.ErrStoreClash},
		{"behind what is not held", []api.Block{under(a, "bb")}, []api.Block{under(b, "a"), under(a, "b")}, 0, api.ErrStoreBad},
		{"behind a link that is none", []api.Block{under(a, "bb")}, []api.Block{{}, under(a, "b")}, 0, api.ErrStoreLink},
		{"itself not held", []api.Block{under(a, "bb")}, []api.Block{under(a, "a")}, 0, api.ErrStoreBad},
	} {
		t.Run(x.name, func(t *testing.T) {
			s := filled(t, 3, x.stands...)
			was := whole(s)
			if n, e := s.add(x.list, weak); n != x.n || e != x.e {
				t.Errorf("%d, %d; want %d, %d", n, e, x.n, x.e)
			}
			if is := whole(s); x.e != api.OK && is != was {
				t.Errorf("refused, and it is %s; it was %s", is, was)
			}
		})
	}
}

// TestPutClash: P13.2 and R7, what Put leaves to the same laying: a clash refuses it.
func TestPutClash(t *testing.T) {
	s := filled(t, 1, under(linkOf("a"), "b"))
	if n, e := s.lay([]api.Block{blockOf("a")}, api.OK, weak); n != 0 || e != api.ErrStoreClash {
		t.Errorf("%d, %d", n, e)
	}
	if l, e := s.Put(api.CodecRaw, []byte("a")); l != linkOf("a") || e != api.OK {
		t.Errorf("by SHA-256 it does not clash: %x, %d", l, e)
	}
}

// TestForce: P13.4, any bytes under any link that stores; none under another; a full store.
func TestForce(t *testing.T) {
	for _, l := range allLinks() {
		for _, room := range []int{1, 2, 3} {
			for _, b := range texts {
				s, p := filled(t, room, blockOf("a")), &plain{room: room}
				p.force(linkOf("a"), []byte("a"))
				if e, want := s.Force(l, []byte(b)), p.force(l, []byte(b)); e != want {
					t.Fatalf("Force(%x, %q) in a room of %d: %d; want %d", l, b, room, e, want)
				}
				if is, want := whole(s), wholly(p); is != want {
					t.Fatalf("Force(%x, %q): %s; want %s", l, b, is, want)
				}
			}
		}
	}
}

// TestMended: P13.3, P13.4, what was forced is mended by Add and by Put, and forced again.
func TestMended(t *testing.T) {
	x := blockOf("a")
	for _, b := range texts {
		if b == "a" {
			continue
		}
		s := filled(t, 1, x)
		for i, mend := range []func() api.Errno{
			func() api.Errno { n, e := s.Add(x); return e + api.Errno(1-n) },
			func() api.Errno { _, e := s.Put(api.CodecRaw, []byte("a")); return e },
			func() api.Errno { return s.Force(x.Link, []byte("a")) },
		} {
			if e := s.Force(x.Link, []byte(b)); e != api.OK {
				t.Fatalf("Force: %d", e)
			}
			counts(t, s, 1, len(b))
			has(t, s, x.Link, "", api.ErrStoreBad)
			refuses(t, s, api.ErrStoreBad, under(x.Link, b))
			if e := mend(); e != api.OK {
				t.Errorf("way %d of mending %q: %d", i, b, e)
			}
			counts(t, s, 1, 1)
			has(t, s, x.Link, "a", api.OK)
		}
	}
}

// TestGet: P13.5, of all links: in an empty store, among right blocks, among broken ones.
func TestGet(t *testing.T) {
	every := made(t, 1000)
	broken := made(t, 1000)
	for _, l := range goodLinks() {
		for _, b := range texts {
			if right(l, []byte(b)) {
				adds(t, every, 1, api.OK, under(l, b))
			}
		}
		if e := broken.Force(l, []byte("broken")); e != api.OK {
			t.Fatalf("Force(%x): %d", l, e)
		}
	}
	empty := made(t, 1)
	for _, l := range badLinks() {
		for _, s := range []*Store{empty, every, broken} {
			has(t, s, l, "", api.ErrStoreLink)
		}
	}
	for _, l := range inlineLinks() {
		for _, s := range []*Store{empty, every, broken} {
			has(t, s, l, l.Digest, api.OK)
		}
	}
	for _, l := range goodLinks() {
		has(t, empty, l, "", api.ErrStoreNone)
		has(t, broken, l, "", api.ErrStoreBad)
		at := slices.IndexFunc(texts, func(b string) bool { return sha(b) == l.Digest })
		if at < 0 {
			has(t, every, l, "", api.ErrStoreNone)
		} else {
			has(t, every, l, texts[at], api.OK)
		}
		if empty.Has(l) || every.Has(l) != (at >= 0) || !broken.Has(l) {
			t.Errorf("Has(%x): %v, %v, %v", l, empty.Has(l), every.Has(l), broken.Has(l))
		}
	}
	for _, l := range slices.Concat(badLinks(), inlineLinks()) {
		if every.Has(l) || every.Delete(l) || broken.Has(l) || broken.Delete(l) {
			t.Errorf("something stands under %x", l)
		}
	}
}

// TestDelete: P13.5, P13.7, one block after another goes, right or not, and no other one with it.
func TestDelete(t *testing.T) {
	s, p := made(t, 1000), &plain{room: 1000}
	for i, l := range goodLinks() {
		b := []byte(texts[i%len(texts)])
		if s.Force(l, b) != api.OK || p.force(l, b) != api.OK {
			t.Fatalf("Force(%x)", l)
		}
	}
	for i, l := range goodLinks() {
		other := badLinks()[i%len(badLinks())]
		for _, x := range []api.Link{other, l, l} {
			if is, want := s.Delete(x), p.delete(x); is != want {
				t.Errorf("Delete(%x): %v", x, is)
			}
			if is, want := whole(s), wholly(p); is != want {
				t.Fatalf("Delete(%x): %s; want %s", x, is, want)
			}
		}
	}
	counts(t, s, 0, 0)
}

// TestLinks: P13.6, all links under which something stands, by link.Less, whatever the order in which they came.
func TestLinks(t *testing.T) {
	d := sample.Dice(1)
	for range 20 {
		s, left := made(t, 1000), goodLinks()
		count := len(left)
		for len(left) > 0 {
			i := d.Below(len(left))
			if e := s.Force(left[i], nil); e != api.OK {
				t.Fatalf("Force: %d", e)
			}
			left = slices.Delete(left, i, i+1)
		}
		list := s.Links()
		for i := 1; i < len(list); i++ {
			if !link.Less(list[i-1], list[i]) {
				t.Fatalf("%x stands ahead of %x", list[i-1], list[i])
			}
		}
		if len(list) != count || s.Len() != count {
			t.Fatalf("%d links, Len %d; want %d", len(list), s.Len(), count)
		}
	}
}

// TestCopy: P13.6, P13.8, a copy has the same room and blocks, broken ones too; what is done to one of the two is not seen in the other.
func TestCopy(t *testing.T) {
	for seed := range 300 {
		d := sample.Dice(seed)
		s := made(t, 1+d.Below(9))
		for range 12 {
			anyCall(&d).on(s)
		}
		was := whole(s)
		other := s.Copy()
		if is := whole(other); is != was || other == s {
			t.Fatalf("seed %d: the copy is %s; want %s", seed, is, was)
		}
		for range 12 {
			anyCall(&d).on(other)
		}
		if is := whole(s); is != was {
			t.Fatalf("seed %d: the copy was changed, and the first is %s; it was %s", seed, is, was)
		}
		was = whole(other)
		for range 12 {
			anyCall(&d).on(s)
		}
		if is := whole(other); is != was {
			t.Fatalf("seed %d: the first was changed, and the copy is %s; it was %s", seed, is, was)
		}
	}
	if s := made(t, 1).Copy(); s.Room() != 1 || s.Len() != 0 || s.Size() != 0 {
		t.Errorf("the copy of an empty store: %s", whole(s))
	}
}

// TestScripts: P13.2 to P13.7, any calls one behind the other, in small rooms, held against the plain reading; all links are asked behind each.
func TestScripts(t *testing.T) {
	links := allLinks()
	for seed := range 400 {
		d := sample.Dice(seed)
		room := 1 + d.Below(8)
		s, p := made(t, room), &plain{room: room}
		for range 60 {
			c := anyCall(&d)
			if is, want := c.on(s), c.plainly(p); is != want {
				t.Fatalf("seed %d: %v: %s; want %s", seed, c, is, want)
			}
			if is, want := whole(s), wholly(p); is != want {
				t.Fatalf("seed %d: behind %v: %s; want %s", seed, c, is, want)
			}
			l := links[d.Below(len(links))]
			b, e := s.Get(l)
			if want, f := p.get(l); !bytes.Equal(b, want) || e != f || s.Has(l) != (p.at(l) >= 0) {
				t.Fatalf("seed %d: behind %v: Get(%x): %q, %d; want %q, %d", seed, c, l, b, e, want, f)
			}
		}
	}
}

// TestWeakScripts: P13.3, the same by a hash of which many meet.
func TestWeakScripts(t *testing.T) {
	clashes := 0
	for seed := range 600 {
		d := sample.Dice(seed)
		room := 1 + d.Below(8)
		s, p := made(t, room), &plain{room: room}
		for range 40 {
			var list []api.Block
			for range d.Below(6) {
				list = append(list, under(anyLink(&d), pick(&d, texts)))
			}
			n, e := s.add(list, weak)
			if m, f := p.add(list, weak); n != m || e != f {
				t.Fatalf("seed %d: %s: %d, %d; want %d, %d", seed, shown(list), n, e, m, f)
			}
			if e == api.ErrStoreClash {
				clashes++
			}
			l, b := anyLink(&d), []byte(pick(&d, texts))
			if d.Below(2) == 0 {
				s.Force(l, b)
				p.force(l, b)
			} else {
				s.Delete(l)
				p.delete(l)
			}
			if is, want := whole(s), wholly(p); is != want {
				t.Fatalf("seed %d: behind %s: %s; want %s", seed, shown(list), is, want)
			}
		}
	}
	if clashes < 100 {
		t.Errorf("%d clashes", clashes)
	}
}

// TestStays: P13.7, behind a Put or an Add its bytes are told, whatever is done under other links.
func TestStays(t *testing.T) {
	for seed := range 200 {
		d := sample.Dice(seed)
		s := made(t, 1+d.Below(6))
		kept := blockOf("kept")
		if d.Below(2) == 0 {
			adds(t, s, 1, api.OK, kept)
		} else if l, e := s.Put(api.CodecRaw, kept.Bytes); l != kept.Link || e != api.OK {
			t.Fatalf("Put: %x, %d", l, e)
		}
		for _, l := range []api.Link{oldOf("kept"), {Version: 1, Codec: api.CodecTree, Hash: api.HashSha, Digest: kept.Link.Digest}, {Version: 1, Codec: api.CodecRaw, Digest: kept.Link.Digest}} {
			s.Force(l, []byte("other"))
			has(t, s, kept.Link, "kept", api.OK)
			s.Delete(l)
			has(t, s, kept.Link, "kept", api.OK)
		}
		for range 30 {
			c := anyCall(&d)
			c.on(s)
			has(t, s, kept.Link, "kept", api.OK)
		}
	}
}

// TestLongest: P13.2 to P13.4, blocks of just MaxBlock bytes and of one byte more.
func TestLongest(t *testing.T) {
	long := bytes.Repeat([]byte("long"), api.MaxBlock/4+1)
	most, more := long[:api.MaxBlock], long[:api.MaxBlock+1]
	s := made(t, 2)
	l, e := s.Put(api.CodecRaw, most)
	if e != api.OK || l.Digest != sha(string(most)) {
		t.Fatalf("Put of MaxBlock bytes: %x, %d", l, e)
	}
	if b, e := s.Get(l); e != api.OK || !bytes.Equal(b, most) {
		t.Errorf("Get of MaxBlock bytes: %d bytes, %d", len(b), e)
	}
	old := api.Link{Codec: api.CodecOld, Hash: api.HashSha, Digest: l.Digest}
	adds(t, s, 1, api.OK, api.Block{Link: old, Bytes: most})
	counts(t, s, 2, 2*api.MaxBlock)
	a := blockOf("a").Link
	if e := s.Force(old, most); e != api.OK {
		t.Errorf("Force of MaxBlock bytes: %d", e)
	}
	if e := s.Force(a, most); e != api.ErrStoreFull {
		t.Errorf("Force of MaxBlock bytes into a full store: %d", e)
	}
	theirs := api.Link{Version: 1, Codec: api.CodecRaw, Hash: api.HashSha, Digest: sha(string(more))}
	for _, x := range []struct {
		l api.Link
		e api.Errno
	}{{theirs, api.ErrStoreLong}, {l, api.ErrStoreLong}, {a, api.ErrStoreLong}, {api.Link{}, api.ErrStoreLink}, {inlineLinks()[0], api.ErrStoreLink}} {
		if n, e := s.Add(api.Block{Link: x.l, Bytes: more}); n != 0 || e != x.e {
			t.Errorf("Add of a byte more under %x: %d, %d", x.l, n, e)
		}
		if n, e := s.Add(blockOf("a"), api.Block{Link: x.l, Bytes: more}, under(a, "b")); n != 0 || e != x.e {
			t.Errorf("Add of a byte more under %x among others: %d, %d", x.l, n, e)
		}
		if e := s.Force(x.l, more); e != x.e {
			t.Errorf("Force of a byte more under %x: %d", x.l, e)
		}
	}
	if n, e := s.Add(under(a, "b"), api.Block{Link: theirs, Bytes: more}); n != 0 || e != api.ErrStoreBad {
		t.Errorf("Add of a byte more behind what is not held: %d, %d", n, e)
	}
	for codec, want := range map[uint64]api.Errno{api.CodecRaw: api.ErrStoreLong, 1<<63 - 1: api.ErrStoreLong, 1 << 63: api.ErrStoreCodec, 1<<64 - 1: api.ErrStoreCodec} {
		if l, e := s.Put(codec, more); l != (api.Link{}) || e != want {
			t.Errorf("Put(%d) of a byte more: %x, %d", codec, l, e)
		}
	}
	counts(t, s, 2, 2*api.MaxBlock)
}

// TestMost: P13.1, P13.3, a store of MaxBlocks blocks, filled by one call and one by one, and one block more.
func TestMost(t *testing.T) {
	var list []api.Block
	for i := range api.MaxBlocks + 1 {
		list = append(list, blockOf(fmt.Sprint(i)))
	}
	most, more := list[:api.MaxBlocks], list[api.MaxBlocks]
	s := made(t, api.MaxBlocks)
	adds(t, s, 0, api.ErrStoreFull, list...)
	counts(t, s, 0, 0)
	adds(t, s, api.MaxBlocks, api.OK, most...)
	adds(t, s, 0, api.OK, most...)
	adds(t, s, 0, api.ErrStoreFull, more)
	if e := s.Force(more.Link, nil); e != api.ErrStoreFull {
		t.Errorf("Force of one more: %d", e)
	}
	if l, e := s.Put(api.CodecRaw, more.Bytes); l != (api.Link{}) || e != api.ErrStoreFull {
		t.Errorf("Put of one more: %x, %d", l, e)
	}
	one := made(t, api.MaxBlocks)
	size := 0
	for _, x := range most {
		if l, e := one.Put(api.CodecRaw, x.Bytes); l != x.Link || e != api.OK {
			t.Fatalf("Put: %x, %d", l, e)
		}
		size += len(x.Bytes)
	}
	counts(t, s, api.MaxBlocks, size)
	if whole(one) != whole(s) {
		t.Errorf("one by one it is another store")
	}
	if !s.Delete(list[0].Link) {
		t.Errorf("Delete")
	}
	adds(t, s, 1, api.OK, more)
	counts(t, s, api.MaxBlocks, size-1+len(more.Bytes))
}

// TestHandedIn: P13.8 and R2, what is handed in is neither changed nor kept, its spare room too.
func TestHandedIn(t *testing.T) {
	for seed := range 300 {
		d := sample.Dice(seed)
		s := made(t, 6)
		for range 20 {
			c := anyCall(&d)
			c.list = again(c.list)
			kept := again(c.list)
			c.on(s)
			if !same(c.list, kept) {
				t.Fatalf("seed %d: %v was changed; it was %s", seed, c, shown(kept))
			}
			was := whole(s)
			for _, x := range c.list {
				b := x.Bytes[:cap(x.Bytes)]
				for i := range b {
					b[i] ^= 0xff
				}
			}
			clear(c.list[:cap(c.list)])
			if is := whole(s); is != was {
				t.Fatalf("seed %d: what was handed in was written over, and the store is %s; it was %s; %s", seed, is, was, shown(kept))
			}
		}
	}
}

// TestToldIsNew: P13.8 and R2, what is told is the caller's own, its spare room too.
func TestToldIsNew(t *testing.T) {
	s := made(t, 20)
	links := []api.Link{{Version: 1, Codec: api.CodecRaw, Digest: strings.Repeat("x", 40)}}
	for _, b := range texts {
		l, _ := s.Put(api.CodecRaw, []byte(b))
		links = append(links, l, l)
	}
	was, other := whole(s), s.Copy()
	var told []api.Value
	for _, l := range links {
		for _, from := range []*Store{s, other, s} {
			b, e := from.Get(l)
			if e != api.OK {
				t.Fatalf("Get(%x): %d", l, e)
			}
			told = append(told, api.Value{Bytes: b})
		}
	}
	if !sample.Apart(told...) {
		t.Errorf("two answers of Get share memory")
	}
	one, two := s.Links(), s.Links()
	clear(one[:cap(one)])
	if slices.Contains(two, api.Link{}) {
		t.Errorf("two answers of Links share memory")
	}
	clear(two[:cap(two)])
	if is := whole(s); is != was || whole(other) != was {
		t.Errorf("what was told was written over, and the store is %s; it was %s", is, was)
	}
}

// TestApart: P13.8, two stores have nothing in common.
func TestApart(t *testing.T) {
	one, two := made(t, 2), made(t, 3)
	adds(t, one, 1, api.OK, blockOf("a"))
	counts(t, two, 0, 0)
	adds(t, two, 3, api.OK, blockOf("a"), blockOf("b"), blockOf("c"))
	if e := two.Force(linkOf("a"), []byte("zz")); e != api.OK {
		t.Errorf("Force: %d", e)
	}
	has(t, one, linkOf("a"), "a", api.OK)
	counts(t, one, 1, 1)
	if !one.Delete(linkOf("a")) || !two.Has(linkOf("a")) {
		t.Errorf("Delete in one store")
	}
}
