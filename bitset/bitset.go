// Package bitset is layer 2: rows of bits. See shared/doc/02-bitset.md.
package bitset

import (
	"math/bits"
	"slices"

	"tumbrel/api"
)

// Most is how many bits a row has at most.
const Most = 1 << 16

const wide = 64 // bits of a word

// Set is a row of bits.
type Set struct {
	n     int
	words []uint64 // what stands in the last one behind the row's end is always 0, so that words can be counted and compared whole
}

// New is a row of n bits, all 0.
func New(n int) *Set {
	n = min(max(n, 0), Most)
	return &Set{n: n, words: make([]uint64, (n+wide-1)/wide)}
}

// Has is whether bit i is 1.
func (s *Set) Has(i int) bool {
	return s.there(i) && s.words[i/wide]>>(i%wide)&1 == 1
}

// Put makes bit i 1, or 0.
func (s *Set) Put(i int, v bool) api.Errno {
	if s == nil {
		return api.ErrNil
	}
	if !s.there(i) {
		return api.ErrRange
	}
	if v {
		s.words[i/wide] |= 1 << (i % wide)
	} else {
		s.words[i/wide] &^= 1 << (i % wide)
	}
	return api.OK
}

// Len is how many bits there are.
func (s *Set) Len() int {
	if s == nil {
		return 0
	}
	return s.n
}

// Count is how many bits are 1.
func (s *Set) Count() int {
	if s == nil {
		return 0
	}
	c := 0
	for i := range len(s.words) {
		c += bits.OnesCount64(s.words[i])
	}
	return c
}

// Next is the first bit from bit from on that is v, and whether there is one.
func (s *Set) Next(from int, v bool) (int, bool) {
	from = max(from, 0)
	if !s.there(from) {
		return 0, false
	}
	first := from / wide
	ahead := uint64(1)<<(from%wide) - 1
	for k := range len(s.words) - first {
		w := s.alike(first+k, v) &^ ahead
		ahead = 0
		if w == 0 {
			continue
		}
		i := (first+k)*wide + bits.TrailingZeros64(w)
		if s.there(i) { // noughts behind the end are no bits of the row
			return i, true
		}
	}
	return 0, false
}

// All is the places of the bits that are 1, rising.
func (s *Set) All() []int {
	if s == nil {
		return nil
	}
	l := make([]int, 0, s.Count())
	for i := range s.n {
		if s.Has(i) {
			l = append(l, i)
		}
	}
	return l
}

// Copy is a row that is the same, and has nothing in common with it.
func (s *Set) Copy() *Set {
	if s == nil {
		return nil
	}
	return &Set{n: s.n, words: slices.Clone(s.words)}
}

// Same is whether a and b have as many bits, and the same ones.
func Same(a, b *Set) bool {
	if a.Len() != b.Len() {
		return false
	}
	return a.Len() == 0 || slices.Equal(a.words, b.words) // a row without bits may be a nil one
}

// there is whether there is a bit i.
func (s *Set) there(i int) bool { return i >= 0 && i < s.Len() }

// alike is word k with a 1 for each bit that is v.
func (s *Set) alike(k int, v bool) uint64 {
	if v {
		return s.words[k]
	}
	return ^s.words[k]
}
