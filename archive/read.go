package archive

import (
	"slices"

	"trellis/api"
	"trellis/link"
	"trellis/read"
	"trellis/store"
	"trellis/varint"
	"trellis/walk"
)

// opened tells what a file holds; the blocks' bytes are the file's own.
func opened(b []byte) (api.Archive, api.Fault) {
	if len(b) > api.MaxArchive {
		return api.Archive{}, api.Fault{Code: api.ErrArchiveLong}
	}
	r := reader{bytes: b, end: len(b)}
	f := r.part(r.head)
	for f.Code == api.OK && len(r.left()) > 0 {
		f = r.part(r.block)
	}
	if f.Code != api.OK {
		return api.Archive{}, f
	}
	if !isWhole(r.archive) {
		return api.Archive{}, r.fault(api.ErrArchiveLeft)
	}
	return r.archive, api.Fault{}
}

// reader: a file, as far as it has been read. A part that has been entered bounds what is left to read, till it is left again.
type reader struct {
	bytes   []byte
	at      int // the first place that has not been read
	end     int // the place behind the part that is being read; at first behind the file
	archive api.Archive
}

// left tells the bytes that are left of the part that is being read.
func (r *reader) left() []byte { return r.bytes[r.at:r.end:r.end] }

// fault tells a fault at the place to which the reading has come.
func (r *reader) fault(e api.Errno) api.Fault { return api.Fault{Code: e, At: r.at} }

// enter enters the part of the next so many bytes; where the part about it ends is told.
func (r *reader) enter(size int) int {
	about := r.end
	r.end = r.at + size
	return about
}

// leave leaves a part for the one about it, and goes on behind it, however far it has been read.
func (r *reader) leave(about int) {
	r.at, r.end = r.end, about
}

// part reads a length, and, by another function, the part that has it; what that function refuses is a fault at the place to which it has come.
func (r *reader) part(inner func() api.Errno) api.Fault {
	size, used, e := varint.Read(r.left())
	switch e {
	case api.OK:
	case api.ErrVarintShort:
		return r.fault(api.ErrArchiveShort)
	default:
		return r.fault(api.ErrArchiveHead)
	}
	r.at += used
	if size > uint64(len(r.left())) {
		return r.fault(api.ErrArchiveShort)
	}
	defer r.leave(r.enter(int(size)))
	if e := inner(); e != api.OK {
		return r.fault(e)
	}
	return api.Fault{}
}

// head reads the head out of its part.
func (r *reader) head() api.Errno {
	roots, is := rootsIn(r.left())
	if !is {
		return api.ErrArchiveHead
	}
	r.archive.Roots = roots
	return api.OK
}

// block reads a block out of its part.
func (r *reader) block() api.Errno {
	l, used, e := link.First(r.left())
	if e != api.OK || l.Hash != api.HashSha {
		return api.ErrArchiveLink
	}
	ahead := r.archive.Blocks
	if n := len(ahead); n > 0 && !link.Less(ahead[n-1].Link, l) {
		return api.ErrArchiveOrder
	}
	r.at += used
	b := r.left()
	if len(b) > api.MaxBlock || !link.Holds(l, b) {
		return api.ErrArchiveBlock
	}
	r.archive.Blocks = append(ahead, api.Block{Link: l, Bytes: b})
	return api.OK
}

// rootsIn tells the roots that a head names, if these bytes are one.
func rootsIn(b []byte) ([]api.Link, bool) {
	v, f := read.Decode(b, api.MaxDepth)
	// What is no map has no keys; and these two can stand in keys' order alone.
	if f.Code != api.OK || !slices.Equal(v.Keys, []string{rootsKey, versionKey}) {
		return nil, false
	}
	list, number := v.Items[0], v.Items[1]
	if list.Kind != api.KindList || number.Kind != api.KindInt || number.Neg || number.N != version {
		return nil, false
	}
	var roots []api.Link
	for _, x := range list.Items {
		// What is no link has the zero one, which is not of HashSha.
		if x.Link.Hash != api.HashSha || len(roots) > 0 && !link.Less(roots[len(roots)-1], x.Link) {
			return nil, false
		}
		roots = append(roots, x.Link)
	}
	return roots, len(roots) > 0
}

// isWhole tells whether an archive's blocks, which their links hold, are just those that its roots reach.
func isWhole(a api.Archive) bool {
	// There is no store for no blocks, nor for more than a walk tells; and no archive has so few or so many.
	s, e := store.New(len(a.Blocks))
	if e != api.OK {
		return false
	}
	for _, x := range a.Blocks {
		// It is not refused: there is room for all. And Add would ask once more whether the link holds it.
		s.Force(x.Link, x.Bytes)
	}
	there, lacking, e := walk.Reach(s, a.Roots...)
	// No others stand there: if as many are told as there are, it is all of them.
	return e == api.OK && len(lacking) == 0 && len(there) == len(a.Blocks)
}
