package domain

import (
	"iter"
	"math/bits"

	"manystrand/api"
)

// A set is a domain as bits: to narrow it is to mask its words, without new memory.
type set [api.MaxValue/64 + 1]uint64

// setOf returns the set of a valid domain.
func setOf(d [][2]int) set {
	var s set
	for _, r := range d {
		for w := r[0] / 64; w <= r[1]/64; w++ {
			s[w] |= mask(w, r[0], r[1])
		}
	}
	return s
}

// setsOf returns the sets of valid domains.
func setsOf(l [][][2]int) []set {
	sets := make([]set, len(l))
	for i, d := range l {
		sets[i] = setOf(d)
	}
	return sets
}

// mask returns the bits of a word that stand for the numbers from low to high.
func mask(word, low, high int) uint64 {
	low, high = max(low-64*word, 0), min(high-64*word, 63)
	if low > high {
		return 0
	}
	return ^uint64(0) << low & (^uint64(0) >> (63 - high))
}

func (s *set) has(v int) bool { return v >= 0 && v <= api.MaxValue && s[v/64]>>(v%64)&1 == 1 }

// add puts a number in; one that no domain has is left out.
func (s *set) add(v int) {
	if v >= 0 && v <= api.MaxValue {
		s[v/64] |= 1 << (v % 64)
	}
}

// keep leaves the numbers from low to high alone.
func (s *set) keep(low, high int) {
	for w := range s {
		s[w] &= mask(w, low, high)
	}
}

// drop takes the numbers from low to high out.
func (s *set) drop(low, high int) {
	for w := max(low, 0) / 64; w <= min(high, api.MaxValue)/64; w++ {
		s[w] &^= mask(w, low, high)
	}
}

// meet leaves what is in another set, too, and reports whether that is less than there was.
func (s *set) meet(t *set) (less bool) {
	for w := range s {
		if both := s[w] & t[w]; both != s[w] {
			s[w], less = both, true
		}
	}
	return less
}

func (s *set) isEmpty() bool { return *s == set{} }

// ends returns the least and the greatest number of a set that is not empty.
func (s *set) ends() (low, high int) {
	first, last := 0, len(s)-1
	for s[first] == 0 {
		first++
	}
	for s[last] == 0 {
		last--
	}
	return 64*first + bits.TrailingZeros64(s[first]), 64*last + bits.Len64(s[last]) - 1
}

// all goes through the numbers, ascending.
func (s *set) all() iter.Seq[int] {
	return func(yield func(int) bool) {
		for w, word := range s {
			for ; word != 0; word &= word - 1 {
				if !yield(64*w + bits.TrailingZeros64(word)) {
					return
				}
			}
		}
	}
}

// ranges returns the set as a domain.
func (s *set) ranges() [][2]int {
	var d [][2]int
	for v := range s.all() {
		if n := len(d); n > 0 && d[n-1][1] == v-1 {
			d[n-1][1] = v
		} else {
			d = append(d, [2]int{v, v})
		}
	}
	return d
}

// rangesOf returns sets as domains.
func rangesOf(sets []set) [][][2]int {
	l := make([][][2]int, len(sets))
	for i := range sets {
		l[i] = sets[i].ranges()
	}
	return l
}
