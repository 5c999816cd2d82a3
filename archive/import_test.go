package archive

// P19.3: what Import lays, and what it refuses.

import (
	"fmt"
	"slices"
	"testing"

	"trellis/api"
	"trellis/sample"
	"trellis/store"
)

// brings: Import tells just these roots, and that so many blocks were laid anew.
func brings(t *testing.T, what string, s *store.Store, b string, anew int, roots ...api.Link) {
	t.Helper()
	if l, n, f := imports(t, s, b); f != (api.Fault{}) || n != anew || !slices.Equal(l, roots) {
		t.Errorf("%s: %v, %d, %v; want %d", what, l, n, f, anew)
	}
}

// keepsOut: Import tells just that fault.
func keepsOut(t *testing.T, what string, s *store.Store, b string, code api.Errno, at int) {
	t.Helper()
	if l, n, f := imports(t, s, b); f != (api.Fault{Code: code, At: at}) || n != 0 || l != nil {
		t.Errorf("%s: %v, %d, %v; want %d at %d", what, l, n, f, code, at)
	}
}

// TestImportExamples: the chapter's example 4.
func TestImportExamples(t *testing.T) {
	b, r, x := small()
	s := made(t, 10)
	brings(t, "an empty one", s, b, 1, r)
	brings(t, "where r stands", s, b, 0, r)
	if got, e := s.Get(r); e != api.OK || string(got) != string(x.Bytes) {
		t.Errorf("r: %x, %d", got, e)
	}
	full := made(t, 1)
	raw(full, "other")
	keepsOut(t, "without room", full, b, api.ErrStoreFull, 0)
}

// TestAnew: of some blocks some stand already, some are lost, under some others stand.
func TestAnew(t *testing.T) {
	s, r, tree := world(t)
	old := add(s, oldLink("old"), "old")
	top := put(s, sample.Map("a b", linkOf(tree), linkOf(old)))
	b, _ := writes(t, s, top, r)
	all := links(r, tree, old, top)
	for which := range 81 {
		to, anew := made(t, 10), 0
		raw(to, "beside")
		for i, l := range all {
			switch which / []int{1, 3, 9, 27}[i] % 3 {
			case 0:
				anew++
			case 1:
				right, _ := s.Get(l)
				add(to, l, string(right))
			case 2:
				anew++
				if e := to.Force(l, []byte("forced")); e != api.OK {
					t.Fatal(e)
				}
			}
		}
		brings(t, fmt.Sprint(which), to, b, anew, r, top)
		brings(t, fmt.Sprint(which, " again"), to, b, 0, r, top)
		if to.Len() != 5 {
			t.Errorf("%d: %d blocks", which, to.Len())
		}
	}
}

// TestRoom: room for all, and for one less; blocks that stand already, right or not, take none.
func TestRoom(t *testing.T) {
	s, r, tree := world(t)
	b, _ := writes(t, s, tree)
	one, two, three := made(t, 1), made(t, 2), made(t, 3)
	keepsOut(t, "room for one", one, b, api.ErrStoreFull, 0)
	raw(one, "\x01\x02")
	keepsOut(t, "room for one, and it stands there", one, b, api.ErrStoreFull, 0)
	brings(t, "room for one, of which all is there", one, fileOf(links(r), rawBlock("\x01\x02")), 0, r)
	brings(t, "room for two", two.Copy(), b, 2, tree)
	raw(two, "beside")
	keepsOut(t, "room for one more", two, b, api.ErrStoreFull, 0)
	raw(three, "beside")
	if e := three.Force(r, []byte("forced")); e != api.OK {
		t.Fatal(e)
	}
	brings(t, "room for one more, and the other is mended", three, b, 2, tree)
	brings(t, "a full one that has all", three, b, 0, tree)
}

// TestFaultsAhead: Read's fault counts ahead of the store's.
func TestFaultsAhead(t *testing.T) {
	b, _, _ := small()
	full := made(t, 1)
	raw(full, "other")
	keepsOut(t, "no head", full, "\x01\xf6", api.ErrArchiveHead, 1)
	keepsOut(t, "cut", full, b[:97], api.ErrArchiveShort, 60)
	keepsOut(t, "a wrong block", full, b[:97]+"\x03", api.ErrArchiveBlock, 96)
	keepsOut(t, "blocks are missing", full, b[:59], api.ErrArchiveLeft, 59)
	_, r, tree := world(t)
	lacks := fileOf(links(tree), treeBlock(listOf(r)))
	has := made(t, 10)
	raw(has, "\x01\x02")
	keepsOut(t, "a block is missing, but the store has it", has, lacks, api.ErrArchiveLeft, len(lacks))
	more := fileOf(links(r), rawBlock("\x01\x02"), treeBlock(listOf(r)))
	keepsOut(t, "a block too many", has, more, api.ErrArchiveLeft, len(more))
}

// TestAnyImport: whatever the file and the store.
func TestAnyImport(t *testing.T) {
	told := map[api.Errno]int{}
	part := 0
	for seed := range 400 {
		d := sample.Dice(seed)
		b, a := anyFile(t, &d)
		for range 6 {
			s := made(t, 1+d.Below(len(a.Blocks)+4))
			raw(s, "beside")
			for _, x := range a.Blocks {
				if s.Len() == s.Room() {
					break
				}
				switch d.Below(4) {
				case 0:
					add(s, x.Link, string(x.Bytes))
				case 1:
					s.Force(x.Link, []byte("forced"))
				}
			}
			_, n, f := imports(t, s, b)
			told[f.Code]++
			if n > 0 && n < len(a.Blocks) {
				part++
			}
			_, _, f = imports(t, s, bent(&d, b))
			told[f.Code]++
		}
	}
	if told[api.OK] < 200 || told[api.ErrStoreFull] < 200 || told[api.ErrArchiveShort] < 200 || part < 200 {
		t.Errorf("%v, %d: too few to tell", told, part)
	}
}
