package archive

// The chapter read a second time, plainly.

import (
	"crypto/sha256"
	"encoding/binary"
	"fmt"
	"slices"
	"strings"
	"testing"

	"trellis/api"
	"trellis/link"
	"trellis/loose"
	"trellis/store"
)

// plainTree: the tree whose form bytes are: what is read loosely, and of which nothing is noted (W2).
func plainTree(b string) (api.Value, bool) {
	v, notes, f := loose.Parse([]byte(b), api.MaxDepth)
	return v, f == (api.Fault{}) && len(notes) == 0
}

// plainLinks: all links in a tree.
func plainLinks(v api.Value) []api.Link {
	var all []api.Link
	if v.Kind == api.KindLink {
		all = links(v.Link)
	}
	for _, item := range v.Items {
		all = append(all, plainLinks(item)...)
	}
	return all
}

// plainReach: all links of HashSha that can be reached, by what a function tells of a link's block: those that are there, and those that are lacking.
func plainReach(roots []api.Link, get func(api.Link) (string, bool)) (there, lacking []api.Link) {
	met, left := map[api.Link]bool{}, slices.Clone(roots)
	for len(left) > 0 {
		l := left[0]
		left = left[1:]
		if met[l] {
			continue
		}
		met[l] = true
		b, is := get(l)
		if l.Hash == api.HashNone {
			b, is = l.Digest, true
		}
		if l.Version == 1 && l.Codec == api.CodecTree && is {
			var v api.Value
			v, is = plainTree(b)
			left = append(left, plainLinks(v)...)
		}
		switch {
		case l.Hash != api.HashSha:
		case is:
			there = append(there, l)
		default:
			lacking = append(lacking, l)
		}
	}
	return sorted(there), sorted(lacking)
}

// plainWrite: the file of a store and roots.
func plainWrite(s *store.Store, roots []api.Link) (string, api.Errno) {
	for _, l := range roots {
		if link.Check(l) != api.OK || l.Hash != api.HashSha {
			return "", api.ErrArchiveLink
		}
	}
	if len(roots) == 0 {
		return "", api.ErrArchiveLink
	}
	there, lacking := plainReach(roots, func(l api.Link) (string, bool) {
		b, e := s.Get(l)
		return string(b), e == api.OK
	})
	if len(there)+len(lacking) > api.MaxReach {
		return "", api.ErrWalkFull
	}
	for _, l := range lacking {
		if _, e := s.Get(l); e != api.OK {
			return "", e
		}
		return "", api.ErrWalkBlock
	}
	var blocks []api.Block
	for _, l := range there {
		b, _ := s.Get(l)
		blocks = append(blocks, api.Block{Link: l, Bytes: b})
	}
	b := fileOf(sorted(roots), blocks...)
	if len(b) > api.MaxArchive {
		return "", api.ErrArchiveLong
	}
	return b, api.OK
}

// plainLength: the varint at the front of bytes, and how many bytes it has.
func plainLength(b string) (uint64, int, api.Errno) {
	for i := 0; i < 9; i++ {
		if i == len(b) {
			return 0, 0, api.ErrArchiveShort
		}
		if b[i] < 0x80 {
			n, used := binary.Uvarint([]byte(b[:i+1]))
			if b[i] == 0 && i > 0 {
				return 0, 0, api.ErrArchiveHead
			}
			return n, used, api.OK
		}
	}
	return 0, 0, api.ErrArchiveHead
}

// plainRoots: the roots of a head: all links in it, if the head that they make is this one.
func plainRoots(form string) ([]api.Link, bool) {
	v, is := plainTree(form)
	roots := plainLinks(v)
	for _, l := range roots {
		is = is && l.Hash == api.HashSha
	}
	return roots, is && len(roots) > 0 && slices.Equal(roots, sorted(roots)) && headForm(roots...) == form
}

// plainName: the link of HashSha at the front of bytes, and how many bytes it has.
func plainName(b string) (api.Link, int, bool) {
	l, at := api.Link{Codec: api.CodecOld, Hash: api.HashSha}, 0
	if strings.HasPrefix(b, "\x01") {
		codec, used, e := plainLength(b[1:])
		if e != api.OK {
			return api.Link{}, 0, false
		}
		l.Version, l.Codec, at = 1, codec, 1+used
	}
	if !strings.HasPrefix(b[at:], "\x12\x20") || len(b) < at+34 {
		return api.Link{}, 0, false
	}
	l.Digest = b[at+2 : at+34]
	return l, at + 34, true
}

// plainBlock: the block in a part, if it may stand behind another link; else why not, and where in the part.
func plainBlock(b string, ahead *api.Link) (api.Block, api.Errno, int) {
	l, used, is := plainName(b)
	if !is {
		return api.Block{}, api.ErrArchiveLink, 0
	}
	if ahead != nil && name(*ahead) >= name(l) {
		return api.Block{}, api.ErrArchiveOrder, 0
	}
	sum := sha256.Sum256([]byte(b[used:]))
	if len(b)-used > api.MaxBlock || string(sum[:]) != l.Digest {
		return api.Block{}, api.ErrArchiveBlock, used
	}
	return blockOf(l, b[used:]), api.OK, 0
}

// plainPart: the part at a place of bytes, and its place; or the fault.
func plainPart(b string, at int) (string, int, api.Fault) {
	n, used, e := plainLength(b[at:])
	if e != api.OK {
		return "", 0, api.Fault{Code: e, At: at}
	}
	at += used
	if n > uint64(len(b)-at) {
		return "", 0, api.Fault{Code: api.ErrArchiveShort, At: at}
	}
	return b[at : at+int(n)], at, api.Fault{}
}

// plainRead: what a file holds.
func plainRead(b string) (api.Archive, api.Fault) {
	if len(b) > api.MaxArchive {
		return api.Archive{}, api.Fault{Code: api.ErrArchiveLong}
	}
	inner, at, f := plainPart(b, 0)
	if f.Code != api.OK {
		return api.Archive{}, f
	}
	roots, is := plainRoots(inner)
	if !is {
		return api.Archive{}, api.Fault{Code: api.ErrArchiveHead, At: at}
	}
	a, blocks := api.Archive{Roots: roots}, map[api.Link]string{}
	var ahead *api.Link
	for next := at + len(inner); next < len(b); next = at + len(inner) {
		if inner, at, f = plainPart(b, next); f.Code != api.OK {
			return api.Archive{}, f
		}
		x, e, in := plainBlock(inner, ahead)
		if e != api.OK {
			return api.Archive{}, api.Fault{Code: e, At: at + in}
		}
		a.Blocks, blocks[x.Link], ahead = append(a.Blocks, x), string(x.Bytes), &x.Link
	}
	there, lacking := plainReach(roots, func(l api.Link) (string, bool) {
		b, is := blocks[l]
		return b, is
	})
	if len(lacking) > 0 || len(there) != len(blocks) || len(blocks) > api.MaxReach {
		return api.Archive{}, api.Fault{Code: api.ErrArchiveLeft, At: len(b)}
	}
	return a, api.Fault{}
}

// plainImport: how many of an archive's blocks are laid anew into a store; or why none is. The store is another one behind it.
func plainImport(s *store.Store, a api.Archive) (int, api.Fault) {
	fresh, anew := 0, 0
	for _, x := range a.Blocks {
		if !s.Has(x.Link) {
			fresh++
		}
		if _, e := s.Get(x.Link); e != api.OK {
			anew++
		}
	}
	if s.Len()+fresh > s.Room() {
		return 0, api.Fault{Code: api.ErrStoreFull}
	}
	for _, x := range a.Blocks {
		add(s, x.Link, string(x.Bytes))
	}
	return anew, api.Fault{}
}

// written: an archive as a text, in which nil and empty lists are one.
func written(a api.Archive) string {
	text := fmt.Sprint(len(a.Roots))
	for _, l := range a.Roots {
		text += fmt.Sprintf(" %d %d %d %x", l.Version, l.Codec, l.Hash, l.Digest)
	}
	for _, x := range a.Blocks {
		text += fmt.Sprintf("; %d %d %d %x: %x", x.Link.Version, x.Link.Codec, x.Link.Hash, x.Link.Digest, x.Bytes)
	}
	return text
}

// writes: Write, held against the plain reading; the store and the roots are as they were.
func writes(t *testing.T, s *store.Store, roots ...api.Link) (string, api.Errno) {
	t.Helper()
	want, bad := plainWrite(s, roots)
	was, before := standing(s), slices.Clone(roots)
	b, e := Write(s, roots)
	if e != bad || string(b) != want || e != api.OK && b != nil {
		t.Fatalf("Write of %v: %.200x, %d; want %.200x, %d", roots, b, e, want, bad)
	}
	if standing(s) != was || !slices.Equal(roots, before) {
		t.Fatalf("Write of %v has changed the store or the roots", roots)
	}
	return string(b), e
}

// refuses: Write tells just that error.
func refuses(t *testing.T, what string, s *store.Store, want api.Errno, roots ...api.Link) {
	t.Helper()
	if b, e := writes(t, s, roots...); e != want || b != "" {
		t.Errorf("%s: %.200x, %d; want %d", what, b, e, want)
	}
}

// reads: Read, held against the plain reading, and Import into an empty store; the file is as it was.
func reads(t *testing.T, b string) (api.Archive, api.Fault) {
	t.Helper()
	want, bad := plainRead(b)
	file := []byte(b)
	a, f := Read(file)
	if f != bad || written(a) != written(want) {
		t.Fatalf("Read of %.400x: %.200s, %v; want %.200s, %v", b, written(a), f, written(want), bad)
	}
	if string(file) != b {
		t.Fatalf("Read of %.400x has changed it", b)
	}
	imports(t, made(t, max(1, len(want.Blocks))), b)
	return a, f
}

// imports: Import, held against the plain reading; beside a fault the store is as it was, the file always.
func imports(t *testing.T, s *store.Store, b string) ([]api.Link, int, api.Fault) {
	t.Helper()
	other := s.Copy()
	a, bad := plainRead(b)
	anew := 0
	if bad.Code == api.OK {
		anew, bad = plainImport(other, a)
	}
	if bad.Code != api.OK {
		a.Roots = nil
	}
	file := []byte(b)
	roots, n, f := Import(s, file)
	if f != bad || n != anew || !slices.Equal(roots, a.Roots) {
		t.Fatalf("Import of %.400x: %v, %d, %v; want %v, %d, %v", b, roots, n, f, a.Roots, anew, bad)
	}
	if standing(s) != standing(other) || string(file) != b {
		t.Fatalf("Import of %.400x: the store is another one than it should be, or the file has changed", b)
	}
	return roots, n, f
}

// faulty: Read and Import tell just that fault.
func faulty(t *testing.T, what, b string, code api.Errno, at int) {
	t.Helper()
	if a, f := reads(t, b); f != (api.Fault{Code: code, At: at}) || written(a) != written(api.Archive{}) {
		t.Errorf("%s: %v; want %d at %d", what, f, code, at)
	}
}

// taken: Read tells just these roots and blocks.
func taken(t *testing.T, what, b string, roots []api.Link, blocks ...api.Block) {
	t.Helper()
	if a, f := reads(t, b); f != (api.Fault{}) || written(a) != written(api.Archive{Roots: roots, Blocks: blocks}) {
		t.Errorf("%s: %.400s, %v", what, written(a), f)
	}
}
