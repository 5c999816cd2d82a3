package archive

// The limits: a block's bytes, a file's bytes, a walk's links. There is too much here to be held against the plain reading.

import (
	"bytes"
	"fmt"
	"slices"
	"strings"
	"testing"

	"trellis/api"
	"trellis/store"
)

// tells: Read and Import tell just that fault.
func tells(t *testing.T, what string, b []byte, code api.Errno, at int) {
	t.Helper()
	want := api.Fault{Code: code, At: at}
	if a, f := Read(b); f != want || a.Roots != nil || a.Blocks != nil {
		t.Errorf("%s: Read: %v; want %v", what, f, want)
	}
	s := made(t, api.MaxBlocks)
	if l, n, f := Import(s, b); f != want || l != nil || n != 0 || s.Len() != 0 {
		t.Errorf("%s: Import: %v; want %v", what, f, want)
	}
}

// takes: Read takes a file with so many roots and blocks, and Write tells it again of the store into which it was imported.
func takes(t *testing.T, what string, b []byte, roots, blocks int) {
	t.Helper()
	a, f := Read(b)
	if f != (api.Fault{}) || len(a.Roots) != roots || len(a.Blocks) != blocks {
		t.Errorf("%s: %d roots, %d blocks, %v; want %d, %d", what, len(a.Roots), len(a.Blocks), f, roots, blocks)
		return
	}
	s := made(t, api.MaxBlocks)
	l, n, f := Import(s, b)
	if f != (api.Fault{}) || !slices.Equal(l, a.Roots) || n != blocks || s.Len() != blocks {
		t.Errorf("%s: Import: %d, %v", what, n, f)
	}
	if again, e := Write(s, l); e != api.OK || !bytes.Equal(again, b) {
		t.Errorf("%s: Write tells another file: %d bytes, %d", what, len(again), e)
	}
}

// TestLongestBlock: a block of MaxBlock bytes, and of one more, which the link holds.
func TestLongestBlock(t *testing.T) {
	zeros := strings.Repeat("\x00", api.MaxBlock+1)
	most, over := rawBlock(zeros[1:]), rawBlock(zeros)
	s := made(t, 10)
	add(s, most.Link, zeros[1:])
	b, e := Write(s, links(most.Link))
	if want := fileOf(links(most.Link), most); e != api.OK || string(b) != want {
		t.Fatalf("%d bytes, %d; want %d", len(b), e, len(want))
	}
	takes(t, "as long as may be", b, 1, 1)
	at := 59 + 4 + 36
	tells(t, "one more byte", []byte(fileOf(links(over.Link), over)), api.ErrArchiveBlock, at)
	b[len(b)-1] = 1
	tells(t, "as long as may be, a wrong byte", b, api.ErrArchiveBlock, at)
	x := rawBlock("x")
	tells(t, "one more byte, and it does not rise", []byte(fileOf(links(x.Link), x, blockOf(x.Link, zeros))), api.ErrArchiveOrder, 59+len(laid(x))+4)
	tells(t, "one more byte, and the part is cut", []byte(fileOf(links(over.Link), over))[:59+4+len(zeros)], api.ErrArchiveShort, 59+4)
}

// greatBlock: a block of so many zeros, laid into a store.
func greatBlock(t *testing.T, s *store.Store, codec uint64, n int) api.Link {
	t.Helper()
	l, e := s.Put(codec, make([]byte, n))
	if e != api.OK {
		t.Fatal(e)
	}
	return l
}

// TestLongestFile: a file of MaxArchive bytes, and of one more; what counts ahead of its length, and behind it.
func TestLongestFile(t *testing.T) {
	s := made(t, 10)
	roots := links(greatBlock(t, s, 0, api.MaxBlock), greatBlock(t, s, 1, api.MaxBlock), greatBlock(t, s, 2, api.MaxBlock))
	head := part(headForm(append(roots, linkIn(3, ""))...))
	// Each block has a length of four bytes ahead, and a link of 36.
	left := api.MaxArchive - len(head) - 3*(4+36+api.MaxBlock) - 4 - 36
	most := append(roots[:3:3], greatBlock(t, s, 3, left))
	over := append(roots[:3:3], greatBlock(t, s, 3, left+1))
	b, e := Write(s, most)
	if e != api.OK || len(b) != api.MaxArchive {
		t.Fatalf("%d bytes, %d", len(b), e)
	}
	if a, f := Read(b); f != (api.Fault{}) || !slices.Equal(a.Roots, most) || len(a.Blocks) != 4 || len(a.Blocks[3].Bytes) != left {
		t.Errorf("Read: %v", f)
	}
	tells(t, "a byte behind", append(b, 0), api.ErrArchiveLong, 0)
	b[0] = 0xff
	tells(t, "a byte behind, and no head", append(b, 0), api.ErrArchiveLong, 0)
	for _, c := range []struct {
		what string
		more []api.Link
		want api.Errno
	}{{"one byte more", nil, api.ErrArchiveLong}, {"one byte more, and a block is lost", links(linkIn(0, "lost")), api.ErrStoreNone}, {"one byte more, and a wrong root", links(api.Link{}), api.ErrArchiveLink}} {
		if b, e := Write(s, append(over[:4:4], c.more...)); e != c.want || b != nil {
			t.Errorf("%s: %d bytes, %d", c.what, len(b), e)
		}
	}
}

// TestLongBytes: bytes of MaxArchive that are no file, and one more.
func TestLongBytes(t *testing.T) {
	zeros := make([]byte, api.MaxArchive+1)
	tells(t, "as long as may be", zeros[1:], api.ErrArchiveHead, 1)
	tells(t, "too long", zeros, api.ErrArchiveLong, 0)
}

// manyBlocks: so many raw blocks in their order, and their links.
func manyBlocks(n int) ([]api.Block, []api.Link) {
	var blocks []api.Block
	for i := range n {
		blocks = append(blocks, rawBlock(fmt.Sprint(i)))
	}
	var all []api.Link
	for _, x := range inRow(blocks...) {
		all = append(all, x.Link)
	}
	return blocks, all
}

// TestMostBlocks: MaxReach blocks under one root, and one more.
func TestMostBlocks(t *testing.T) {
	blocks, all := manyBlocks(api.MaxReach)
	most, over := treeBlock(listOf(all[1:]...)), treeBlock(listOf(all...))
	right := []byte(fileOf(links(most.Link), append(slices.Clone(blocks[1:]), most)...))
	takes(t, "as many as may be", right, 1, api.MaxReach)
	wrong := fileOf(links(over.Link), append(slices.Clone(blocks), over)...)
	tells(t, "one more", []byte(wrong), api.ErrArchiveLeft, len(wrong))
	tells(t, "one more, then cut", []byte(wrong+"\x80"), api.ErrArchiveShort, len(wrong))
	tells(t, "one more, then no link", []byte(wrong+"\x00"), api.ErrArchiveLink, len(wrong)+1)
	lacks := fileOf(links(over.Link), append(slices.Clone(blocks[1:]), over)...)
	tells(t, "one more is named", []byte(lacks), api.ErrArchiveLeft, len(lacks))
	alone := fileOf(links(over.Link), over)
	tells(t, "the tree alone", []byte(alone), api.ErrArchiveLeft, len(alone))
	s := made(t, api.MaxBlocks)
	if _, e := s.Add(append(slices.Clone(blocks[1:]), over)...); e != api.OK {
		t.Fatal(e)
	}
	for what, roots := range map[string][]api.Link{"one more is named": {over.Link}, "one more as a root": append(slices.Clone(all[1:]), over.Link, oldLink("lost"))} {
		if b, e := Write(s, roots); e != api.ErrWalkFull || b != nil {
			t.Errorf("%s: %d bytes, %d", what, len(b), e)
		}
	}
	if b, e := Write(s, links(over.Link, api.Link{})); e != api.ErrArchiveLink || b != nil {
		t.Errorf("a wrong root counts ahead of too many links: %d bytes, %d", len(b), e)
	}
}

// TestMostRoots: MaxReach roots, each its own block, and one more.
func TestMostRoots(t *testing.T) {
	blocks, all := manyBlocks(api.MaxReach + 1)
	b := []byte(fileOf(all[1:], blocks[1:]...))
	takes(t, "as many as may be", b, api.MaxReach, api.MaxReach)
	wrong := fileOf(all, blocks...)
	tells(t, "one more", []byte(wrong), api.ErrArchiveLeft, len(wrong))
	lacks := fileOf(all, blocks[1:]...)
	tells(t, "one more, whose block lacks", []byte(lacks), api.ErrArchiveLeft, len(lacks))
	swapped := slices.Clone(all)
	swapped[api.MaxReach], swapped[api.MaxReach-1] = swapped[api.MaxReach-1], swapped[api.MaxReach]
	tells(t, "one more, and the last two do not rise", []byte(fileOf(swapped, blocks...)), api.ErrArchiveHead, len(number(uint64(len(headForm(all...))))))
}
