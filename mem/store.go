package mem

import (
	"carrel/api"
	"carrel/snap"
)

type page [api.PageSize]byte

// store is where pages are read from: the store of checkpoints below, or, where there is none, what Flat was given.
type store struct {
	below *snap.Store
	given []byte
}

// refusal tells why pages can't be read from a store of checkpoints; that there is none is snap's answer, too.
func (s *store) refusal() api.Errno {
	_, e := s.below.Read(0)
	return e
}

// stored tells a page as it stands in the store, and whether that can be told: it can't any more where the power went.
func (s *store) stored(n int) (page, bool) {
	if s.below == nil {
		return page(s.given[n*api.PageSize : (n+1)*api.PageSize]), true
	}
	b, e := s.below.Read(n)
	if e != api.OK {
		return page{}, false
	}
	return page(b), true
}

// differs holds a page against the store's; where that can't be told, it does not.
func (s *store) differs(n int, now page) bool {
	was, told := s.stored(n)
	return told && now != was
}
