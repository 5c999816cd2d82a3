package store

import (
	"maps"

	"trellis/api"
	"trellis/digest"
	"trellis/link"
)

// draft: what laying some blocks would change.
type draft struct {
	blocks map[api.Link]block // those alone that are not what stands there
	fresh  int                // under how many of their links nothing stands
	grown  int                // how many bytes more there would be
}

// add is Add by any rule of what a link holds: by SHA-256 nobody has two blocks that clash.
func (s *Store) add(list []api.Block, rule func(api.Link, []byte) bool) (int, api.Errno) {
	// This takes long and asks nothing of what stands: so it is done ahead of the lock.
	good, fault := front(list, rule)
	return s.lay(list[:good], fault, rule)
}

// lay lays blocks that their links hold, all or none; none, if fault says why the block behind them is refused.
func (s *Store) lay(list []api.Block, fault api.Errno, rule func(api.Link, []byte) bool) (int, api.Errno) {
	s.lock.Lock()
	defer s.lock.Unlock()
	d, clash := s.drafted(list, rule)
	switch {
	case clash:
		return 0, api.ErrStoreClash
	case fault != api.OK:
		return 0, fault
	case len(s.blocks)+d.fresh > s.room:
		return 0, api.ErrStoreFull
	}
	maps.Copy(s.blocks, d.blocks)
	s.size.Add(int64(d.grown))
	return len(d.blocks), api.OK
}

// drafted tells what laying blocks that their links hold would change; or that two unlike ones of one link are among them and those that stand.
func (s *Store) drafted(list []api.Block, rule func(api.Link, []byte) bool) (draft, bool) {
	d := draft{blocks: map[api.Link]block{}}
	for _, x := range list {
		if ahead, is := d.blocks[x.Link]; is {
			if ahead.bytes != string(x.Bytes) {
				return draft{}, true
			}
			continue
		}
		stood, stands := s.blocks[x.Link]
		switch {
		case !stands:
			d.fresh++
		case stood.bytes == string(x.Bytes):
			continue
		case rule(x.Link, []byte(stood.bytes)):
			return draft{}, true
		}
		d.blocks[x.Link] = block{string(x.Bytes)}
		d.grown += len(x.Bytes) - len(stood.bytes)
	}
	return d, false
}

// front tells how many blocks, from the first on, have nothing against them by themselves, and what the next one has.
func front(list []api.Block, rule func(api.Link, []byte) bool) (int, api.Errno) {
	for i, x := range list {
		if e := fits(x.Link, x.Bytes); e != api.OK {
			return i, e
		}
		if !rule(x.Link, x.Bytes) {
			return i, api.ErrStoreBad
		}
	}
	return len(list), api.OK
}

// fits tells whether such a link may have such bytes under it, right or not.
func fits(l api.Link, b []byte) api.Errno {
	switch {
	case link.Check(l) != api.OK, l.Hash != api.HashSha:
		return api.ErrStoreLink
	case len(b) > api.MaxBlock:
		return api.ErrStoreLong
	}
	return api.OK
}

// holds tells whether a link holds bytes.
func holds(l api.Link, b []byte) bool {
	return digest.Holds(l.Hash, []byte(l.Digest), b)
}
