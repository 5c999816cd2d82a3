package store

// The chapter read a second time, plainly: what stands is a list of blocks in no order, gone through at each question; digests are the library's.

import (
	"bytes"
	"crypto/sha256"
	"encoding/binary"
	"slices"
	"sort"

	"trellis/api"
)

// rule tells whether a link holds bytes.
type rule func(l api.Link, b []byte) bool

func sha(b string) string {
	sum := sha256.Sum256([]byte(b))
	return string(sum[:])
}

// right: what a link holds by the document.
func right(l api.Link, b []byte) bool {
	if l.Hash == api.HashSha {
		return l.Digest == sha(string(b))
	}
	return l.Hash == api.HashNone && l.Digest == string(b) && len(b) <= 64
}

// weak: a hash of which many meet: a link holds all bytes of which the first is even or odd as its digest's is; and no bytes.
func weak(l api.Link, b []byte) bool {
	return len(b) == 0 || b[0]%2 == l.Digest[0]%2
}

// mayBe: DOC.md's table 'Links'.
func mayBe(l api.Link) bool {
	whole := l.Hash == api.HashSha && len(l.Digest) == 32
	switch l.Version {
	case 0:
		return l.Codec == api.CodecOld && whole
	case 1:
		return l.Codec < 1<<63 && (whole || l.Hash == api.HashNone && len(l.Digest) <= 64)
	}
	return false
}

// stores: whether anything can stand under a link.
func stores(l api.Link) bool { return mayBe(l) && l.Hash == api.HashSha }

// row: the bytes of a link that stores, by which they are ordered.
func row(l api.Link) string {
	if l.Version == 0 {
		return "\x12\x20" + l.Digest
	}
	return "\x01" + string(binary.AppendUvarint(nil, l.Codec)) + "\x12\x20" + l.Digest
}

// plain is a store.
type plain struct {
	room   int
	blocks []api.Block
}

func (p *plain) at(l api.Link) int {
	return slices.IndexFunc(p.blocks, func(x api.Block) bool { return x.Link == l })
}

// lay lays bytes under a link, whatever stands there.
func (p *plain) lay(l api.Link, b []byte) {
	p.delete(l)
	p.blocks = append(p.blocks, api.Block{Link: l, Bytes: bytes.Clone(b)})
}

// against tells what P13.3 has against block i of a list.
func (p *plain) against(list []api.Block, i int, holds rule) api.Errno {
	x := list[i]
	switch {
	case !stores(x.Link):
		return api.ErrStoreLink
	case len(x.Bytes) > api.MaxBlock:
		return api.ErrStoreLong
	case !holds(x.Link, x.Bytes):
		return api.ErrStoreBad
	}
	for _, y := range slices.Concat(p.blocks, list[:i]) {
		if y.Link == x.Link && !bytes.Equal(y.Bytes, x.Bytes) && holds(y.Link, y.Bytes) {
			return api.ErrStoreClash
		}
	}
	return api.OK
}

func (p *plain) add(list []api.Block, holds rule) (int, api.Errno) {
	for i := range list {
		if e := p.against(list, i, holds); e != api.OK {
			return 0, e
		}
	}
	behind := p.copy()
	for _, x := range list {
		behind.lay(x.Link, x.Bytes)
	}
	if len(behind.blocks) > p.room {
		return 0, api.ErrStoreFull
	}
	count := 0
	for _, x := range behind.blocks {
		if at := p.at(x.Link); at < 0 || !bytes.Equal(p.blocks[at].Bytes, x.Bytes) {
			count++
		}
	}
	p.blocks = behind.blocks
	return count, api.OK
}

func (p *plain) put(codec uint64, b []byte) (api.Link, api.Errno) {
	if codec >= 1<<63 {
		return api.Link{}, api.ErrStoreCodec
	}
	if len(b) > api.MaxBlock {
		return api.Link{}, api.ErrStoreLong
	}
	l := api.Link{Version: 1, Codec: codec, Hash: api.HashSha, Digest: sha(string(b))}
	if _, e := p.add([]api.Block{{Link: l, Bytes: b}}, right); e != api.OK {
		return api.Link{}, e
	}
	return l, api.OK
}

func (p *plain) force(l api.Link, b []byte) api.Errno {
	switch {
	case !stores(l):
		return api.ErrStoreLink
	case len(b) > api.MaxBlock:
		return api.ErrStoreLong
	case p.at(l) < 0 && len(p.blocks) == p.room:
		return api.ErrStoreFull
	}
	p.lay(l, b)
	return api.OK
}

func (p *plain) get(l api.Link) ([]byte, api.Errno) {
	at := p.at(l)
	switch {
	case !mayBe(l):
		return nil, api.ErrStoreLink
	case l.Hash == api.HashNone:
		return []byte(l.Digest), api.OK
	case at < 0:
		return nil, api.ErrStoreNone
	case !right(l, p.blocks[at].Bytes):
		return nil, api.ErrStoreBad
	}
	return p.blocks[at].Bytes, api.OK
}

func (p *plain) delete(l api.Link) bool {
	count := len(p.blocks)
	p.blocks = slices.DeleteFunc(slices.Clone(p.blocks), func(x api.Block) bool { return x.Link == l })
	return len(p.blocks) < count
}

func (p *plain) links() []api.Link {
	var out []api.Link
	for _, x := range p.blocks {
		out = append(out, x.Link)
	}
	sort.Slice(out, func(i, j int) bool { return row(out[i]) < row(out[j]) })
	return out
}

func (p *plain) size() int {
	sum := 0
	for _, x := range p.blocks {
		sum += len(x.Bytes)
	}
	return sum
}

func (p *plain) copy() *plain { return &plain{room: p.room, blocks: slices.Clone(p.blocks)} }
