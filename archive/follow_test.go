package archive

// P19.4 to P19.6: what follows; what is handed in and what is told; whatever stands in a store, whatever is read.

import (
	"bytes"
	"fmt"
	"slices"
	"strings"
	"testing"

	"trellis/api"
	"trellis/column"
	"trellis/sample"
	"trellis/store"
	"trellis/trie"
	"trellis/walk"
)

// TestThereAndBack: P19.4, what Write tells Read takes, and tells what was there; of an Import's store Write tells the file again, and nothing is lacking there.
func TestThereAndBack(t *testing.T) {
	for seed := range 400 {
		d := sample.Dice(seed)
		s, pool := anyWorld(t, &d)
		roots := anyRoots(&d, pool)
		b, e := Write(s, roots)
		a, f := Read(b)
		there, lacking, _ := walk.Reach(s, roots...)
		if e != api.OK || f != (api.Fault{}) || !slices.Equal(a.Roots, sorted(roots)) || len(a.Blocks) != len(there) || len(lacking) > 0 {
			t.Fatalf("seed %d: %d, %v", seed, e, f)
		}
		for i, x := range a.Blocks {
			if got, e := s.Get(x.Link); x.Link != there[i] || e != api.OK || !bytes.Equal(got, x.Bytes) {
				t.Fatalf("seed %d: block %d: %d", seed, i, e)
			}
		}
		to, _ := anyWorld(t, &d)
		if l, _, f := Import(to, b); f != (api.Fault{}) || !slices.Equal(l, a.Roots) {
			t.Fatalf("seed %d: %v, %v", seed, l, f)
		}
		again, e := Write(to, a.Roots)
		if e != api.OK || !bytes.Equal(again, b) {
			t.Fatalf("seed %d: %d, %x; want %x", seed, e, again, b)
		}
		if all, lacking, e := walk.Reach(to, a.Roots...); e != api.OK || len(lacking) > 0 || !slices.Equal(all, there) {
			t.Fatalf("seed %d: %d lacking, %d", seed, len(lacking), e)
		}
	}
}

// TestTakenIsWritten: P19.4, what Read takes, whatever it was made of, is Write's answer about any store in which its blocks stand.
func TestTakenIsWritten(t *testing.T) {
	took := 0
	for seed := range 800 {
		d := sample.Dice(seed)
		_, a := anyFile(t, &d)
		for range 5 {
			b := altered(&d, a)
			if d.Below(4) == 0 {
				b = bent(&d, b)
			}
			got, f := Read([]byte(b))
			if f != (api.Fault{}) {
				continue
			}
			took++
			s := made(t, 1000)
			raw(s, "beside")
			put(s, listOf(got.Roots...))
			if _, e := s.Add(got.Blocks...); e != api.OK {
				t.Fatal(e)
			}
			if again, e := Write(s, got.Roots); e != api.OK || string(again) != b {
				t.Fatalf("seed %d: %d, %x; want %x", seed, e, again, b)
			}
		}
	}
	if took < 300 {
		t.Errorf("%d files: too few to tell", took)
	}
}

// TestCarried: W13, a trie and a column answer in the other store as they did in the first one.
func TestCarried(t *testing.T) {
	s := made(t, 1000)
	r := raw(s, "raw")
	root, e := trie.New(s, api.Trie{Width: 2, Bucket: 1, Bytes: 4})
	for i := 0; i < 40 && e == api.OK; i++ {
		root, e = trie.Set(s, root, []byte(fmt.Sprint(i)), sample.List(sample.Whole(uint64(i)), linkOf(r)))
	}
	row, f := column.New(s, 1)
	for i := 0; i < 30 && f == api.OK; i++ {
		row, f = column.Append(s, row, float32(i)/4)
	}
	if e != api.OK || f != api.OK {
		t.Fatal(e, f)
	}
	b, _ := writes(t, s, root, row)
	to := made(t, 1000)
	if _, n, fault := imports(t, to, b); fault != (api.Fault{}) || n < 30 || n >= s.Len() {
		t.Fatal(n, fault)
	}
	one, _ := trie.Entries(s, root)
	two, e := trie.Entries(to, root)
	if n, f := trie.Check(to, root); n != 40 || f != api.OK || e != api.OK || fmt.Sprint(one) != fmt.Sprint(two) {
		t.Errorf("the trie: %d, %d, %d", n, f, e)
	}
	here, _ := column.Slice(s, row, 0, 30)
	samples, e := column.Slice(to, row, 0, 30)
	if n, f := column.Check(to, row); n != 30 || f != api.OK || e != api.OK || !slices.Equal(here, samples) {
		t.Errorf("the column: %d, %d, %d", n, f, e)
	}
}

// sameBlocks: whether two archives have the same blocks.
func sameBlocks(a, b api.Archive) bool {
	return slices.EqualFunc(a.Blocks, b.Blocks, func(x, y api.Block) bool { return x.Link == y.Link && bytes.Equal(x.Bytes, y.Bytes) })
}

// otherByte: P19.5, a file with one byte as another one: refused, or with the same blocks; whether it was taken.
func otherByte(t *testing.T, b string, a api.Archive, at int, with byte) bool {
	t.Helper()
	got, f := reads(t, b[:at]+string([]byte{b[at] ^ with})+b[at+1:])
	if f.Code == api.OK && !sameBlocks(a, got) {
		t.Fatalf("%x at %d of %x: other blocks are told", with, at, b)
	}
	return f.Code == api.OK
}

// TestOneByte: P19.5, each byte as each other one in files that show all parts.
func TestOneByte(t *testing.T) {
	b, r, x := small()
	tree := treeBlock(listOf(r))
	for _, b := range []string{b, fileOf(links(tree.Link), x, tree), fileOf(links(linkIn(api.CodecRaw, ""), oldLink("z")), rawBlock(""), blockOf(oldLink("z"), "z"))} {
		a, f := reads(t, b)
		if f != (api.Fault{}) {
			t.Fatal(f)
		}
		for at := range len(b) {
			for with := 1; with < 256; with++ {
				if otherByte(t, b, a, at, byte(with)) {
					t.Errorf("%x at %d of %x: taken", with, at, b)
				}
			}
		}
	}
	for seed := range 60 {
		d := sample.Dice(seed)
		b, a := anyFile(t, &d)
		for at := range len(b) {
			otherByte(t, b, a, at, 1<<d.Below(8))
			otherByte(t, b, a, at, byte(1+d.Below(255)))
		}
	}
}

// TestOneByteTaken: P19.5, a file with one byte as another one that is taken: another root, and the same blocks.
func TestOneByteTaken(t *testing.T) {
	x, y := blockOf(linkIn(0x40, "x"), "x"), blockOf(linkIn(0x41, "x"), "x")
	tree := treeBlock(listOf(x.Link, y.Link))
	b := fileOf(links(x.Link, tree.Link), x, y, tree)
	a, _ := reads(t, b)
	at := strings.Index(b, "\x01\x40\x12")
	if !otherByte(t, b, a, at+1, 1) {
		t.Error("refused")
	}
	whole(t, "the other root", links(y.Link, tree.Link), x, y, tree)
}

// TestShorter: P19.5, cut at every byte; which fault, by the part in which it is cut.
func TestShorter(t *testing.T) {
	for seed := range 100 {
		d := sample.Dice(seed)
		b, a := anyFile(t, &d)
		ends := []int{len(part(headForm(a.Roots...)))}
		for i, x := range a.Blocks {
			ends = append(ends, ends[i]+len(laid(x)))
		}
		for n := range len(b) {
			_, f := reads(t, b[:n])
			want := api.ErrArchiveShort
			if slices.Contains(ends, n) {
				want = api.ErrArchiveLeft
			}
			if f.Code != want {
				t.Fatalf("seed %d: the first %d bytes of %x: %v", seed, n, b, f)
			}
		}
	}
}

// TestBehind: bytes behind a file, each byte, and many: never taken but as blocks that are reached.
func TestBehind(t *testing.T) {
	b, _, _ := small()
	for i := range 256 {
		if _, f := reads(t, b+string([]byte{byte(i)})); f.Code != api.ErrArchiveShort && i > 0 || f.At < 98 {
			t.Errorf("%x behind: %v", i, f)
		}
	}
	faulty(t, "a part of no bytes behind", b+"\x00", api.ErrArchiveLink, 99)
	faulty(t, "the file behind itself", b+b, api.ErrArchiveLink, 99)
	for seed := range 200 {
		d := sample.Dice(seed)
		b, _ := anyFile(t, &d)
		more, _ := anyFile(t, &d)
		if _, f := reads(t, b+more[d.Below(len(more)):]); f.Code == api.OK {
			t.Fatalf("seed %d: taken", seed)
		}
	}
}

// TestWriteMemory: P19.6 and R2, roots are neither changed nor kept, their spare room too; a file is the caller's own.
func TestWriteMemory(t *testing.T) {
	for seed := range 200 {
		d := sample.Dice(seed)
		s, pool := anyWorld(t, &d)
		some := anyRoots(&d, pool)
		roots := append(make([]api.Link, 0, len(some)+100), some...)
		mark := linkIn(api.CodecRaw, "spare")
		for i := len(roots); i < cap(roots); i++ {
			roots[:cap(roots)][i] = mark
		}
		before, was := slices.Clone(roots[:cap(roots)]), standing(s)
		b, e := Write(s, roots)
		if e != api.OK || !slices.Equal(roots[:cap(roots)], before) {
			t.Fatalf("seed %d: the roots have changed: %d", seed, e)
		}
		want := string(b)
		clear(roots[:cap(roots)])
		if string(b) != want {
			t.Fatalf("seed %d: the file has the memory of the roots", seed)
		}
		clear(b[:cap(b)])
		if standing(s) != was {
			t.Fatalf("seed %d: the file has the memory of the store", seed)
		}
		if again, e := Write(s, some); e != api.OK || string(again) != want {
			t.Fatalf("seed %d: the file was written over, and another one is told: %d", seed, e)
		}
	}
}

// spacious: bytes with spare room, all of it filled.
func spacious(b string) []byte {
	all := append([]byte(b), strings.Repeat("spare", 20)...)
	return all[:len(b)]
}

// apart: whether no two lists of an archive have memory in common, their spare room too. It writes over all of them.
func apart(a api.Archive) bool {
	for _, x := range a.Blocks {
		clear(x.Bytes[:cap(x.Bytes)])
	}
	for _, x := range a.Blocks {
		b := x.Bytes[:cap(x.Bytes)]
		for i := range b {
			if b[i] != 0 {
				return false
			}
			b[i] = 1
		}
	}
	clear(a.Roots[:cap(a.Roots)])
	clear(a.Blocks[:cap(a.Blocks)])
	return true
}

// TestReadMemory: P19.6 and R2, a file is neither changed nor kept, its spare room too; what is told is the caller's own.
func TestReadMemory(t *testing.T) {
	for seed := range 200 {
		d := sample.Dice(seed)
		b, want := anyFile(t, &d)
		file := spacious(b)
		was := string(file[:cap(file)])
		a, f := Read(file)
		if f != (api.Fault{}) || string(file[:cap(file)]) != was {
			t.Fatalf("seed %d: the file has changed: %v", seed, f)
		}
		clear(file[:cap(file)])
		if written(a) != written(want) {
			t.Fatalf("seed %d: what is told has the memory of the file", seed)
		}
		other, _ := Read([]byte(b))
		if !apart(a) {
			t.Fatalf("seed %d: blocks have memory in common", seed)
		}
		if written(other) != written(want) {
			t.Fatalf("seed %d: two answers have memory in common", seed)
		}
	}
}

// TestImportMemory: P19.6 and R2, a file is neither changed nor kept by an Import; its roots are the caller's own.
func TestImportMemory(t *testing.T) {
	for seed := range 200 {
		d := sample.Dice(seed)
		b, want := anyFile(t, &d)
		file := spacious(b)
		was := string(file[:cap(file)])
		s := made(t, 100)
		roots, n, f := Import(s, file)
		if f != (api.Fault{}) || n != len(want.Blocks) || string(file[:cap(file)]) != was {
			t.Fatalf("seed %d: the file has changed: %v", seed, f)
		}
		clear(file[:cap(file)])
		if !slices.Equal(roots, want.Roots) {
			t.Fatalf("seed %d: the roots have the memory of the file", seed)
		}
		clear(roots[:cap(roots)])
		for _, x := range want.Blocks {
			if got, e := s.Get(x.Link); e != api.OK || !bytes.Equal(got, x.Bytes) {
				t.Fatalf("seed %d: the store has the memory of the file: %d", seed, e)
			}
		}
		if again, e := Write(s, want.Roots); e != api.OK || string(again) != b {
			t.Fatalf("seed %d: %d", seed, e)
		}
	}
}

// TestAnyBytes: P19.6 and R3, whatever bytes are read.
func TestAnyBytes(t *testing.T) {
	b, r, _ := small()
	pieces := []string{b[:59], b[59:], b[:1], b[1:59], b[60:], "\x00", "\x80", "\xff", "\x01\xf6", part(name(r)), part(name(oldLink(""))), laid(rawBlock("")), laid(blockOf(oldLink(""), "")), number(1<<63 - 1), strings.Repeat("\xff", 9), strings.Repeat("\x81", 2000), "\x9b\x7f\xff\xff\xff\xff\xff\xff\xff", "\x0a\xa2\x65roots\x9b\xff"}
	for seed := range 4000 {
		d := sample.Dice(seed)
		text := ""
		for range d.Below(6) {
			text += pieces[d.Below(len(pieces))]
		}
		reads(t, text)
	}
	for seed := range 4000 {
		d := sample.Dice(seed)
		text := make([]byte, d.Below(200))
		for i := range text {
			text[i] = byte(d.Next() >> (8 * d.Below(8)))
		}
		reads(t, string(text))
		reads(t, part(string(text)))
		reads(t, b[:59]+part(string(text)))
	}
}

// TestStoreStays: P19.6, nothing is changed in a store, whatever is answered: what was forced is there still, what is lost stays lost.
func TestStoreStays(t *testing.T) {
	s, r, tree := world(t)
	bad, lost := linkIn(api.CodecRaw, "bad"), linkIn(api.CodecRaw, "lost")
	if e := s.Force(bad, []byte("forced")); e != api.OK {
		t.Fatal(e)
	}
	b, _, _ := small()
	was := standing(s)
	calls := []func(*store.Store){
		func(s *store.Store) { Write(s, links(tree, r)) },
		func(s *store.Store) { Write(s, links(tree, bad)) },
		func(s *store.Store) { Write(s, links(tree, lost)) },
		func(s *store.Store) { Write(s, links(tree, api.Link{})) },
		func(s *store.Store) { Write(s, nil) },
		func(s *store.Store) { Read([]byte(b)) },
		func(s *store.Store) { Import(s, []byte(b)) },
		func(s *store.Store) { Import(s, []byte(b+"\x00")) },
		func(s *store.Store) { Import(s, []byte(laid(rawBlock("bad"), rawBlock("lost")))) },
		func(s *store.Store) {
			Import(s, []byte(fileOf(links(r), inRow(rawBlock("bad"), rawBlock("\x01\x02"))...)))
		},
		func(s *store.Store) {
			Import(s, []byte(fileOf(sorted(links(r, bad, lost)), inRow(rawBlock("bad"), rawBlock("\x01\x02"))...)))
		},
	}
	for i, call := range calls {
		call(s)
		if standing(s) != was {
			t.Errorf("%d: the store has changed", i)
		}
	}
}
