package desk

import (
	"trellis/api"
	"trellis/depot"
)

// row: depots, by their numbers.
type row []*seat

// seat: a depot, and what is gathered for it.
type seat struct {
	*depot.Depot
	gathers bool
	ops     []api.Op
}

// at tells a depot by its number; nil, if there is none.
func (r row) at(i int) *seat {
	if i < 0 || i >= len(r) {
		return nil
	}
	return r[i]
}

// take carries an op out by itself, or gathers it.
func (s *seat) take(x api.Op) ([]string, api.Errno) {
	if !s.gathers {
		return s.do("", x)
	}
	if len(s.ops) == api.MaxOps {
		return nil, api.ErrDepotFull
	}
	s.ops = append(s.ops, x)
	return told()
}

// do carries ops out; the names of the heads that were changed.
func (s *seat) do(note string, ops ...api.Op) ([]string, api.Errno) {
	names, e := s.Do(note, ops...)
	if e != api.OK {
		return nil, e
	}
	for i, name := range names {
		names[i] = textOf(name)
	}
	return told(names...)
}

// begin begins to gather.
func (s *seat) begin() api.Errno {
	if s.gathers {
		return api.ErrDeskLine
	}
	s.gathers = true
	return api.OK
}

// end ends that; what has been gathered.
func (s *seat) end() ([]api.Op, api.Errno) {
	if !s.gathers {
		return nil, api.ErrDeskLine
	}
	ops := s.ops
	s.gathers, s.ops = false, nil
	return ops, api.OK
}
