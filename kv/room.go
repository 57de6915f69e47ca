package kv

import (
	"math/bits"
	"slices"

	"tabulary/api"
	"tabulary/page"
)

// used are the pages that are dirty or fresh, rising.
func (s *Store) used() []int {
	l := slices.Concat(s.pool.Dirty(), s.pool.Fresh())
	slices.Sort(l)
	return slices.Compact(l)
}

// left tells how many pages are not taken.
func (s *Store) left() int {
	n := s.shape.Pages
	for _, taken := range s.taken() {
		n -= taken
	}
	return n
}

// taken tells, map by map, how many pages are taken. A map that is neither dirty nor fresh is as it lies on the disk: none need be read, for which there may be no frame, or no power.
func (s *Store) taken() []int {
	l := slices.Clone(s.lying)
	for _, no := range s.used() {
		if no >= len(l) {
			break
		}
		l[no], _ = s.count(no) // it is held
	}
	return l
}

// count tells of how many pages the k-th map tells that they are taken: each has a bit, and bits that mean no page are 0.
func (s *Store) count(k int) (n int, e api.Errno) {
	p, e := s.pool.Get(k)
	if e != api.OK {
		return 0, e
	}
	for _, cell := range page.Cells(p) {
		for _, b := range cell {
			n += bits.OnesCount8(b)
		}
	}
	return n, api.OK
}
