package family

import (
	"iter"
	"math/bits"
	"slices"

	"manystrand/api"
)

// A set is one of elements, as bits; there are not more of them than a word has.
type set uint64

// setOf returns the set of a list of elements.
func setOf(l []int) (s set) {
	for _, n := range l {
		s |= 1 << n
	}
	return s
}

func (s set) isIn(t set) bool { return s&^t == 0 }

func (s set) size() int { return bits.OnesCount64(uint64(s)) }

// all goes through the elements, ascending.
func (s set) all() iter.Seq[int] {
	return func(yield func(int) bool) {
		for ; s != 0; s &= s - 1 {
			if !yield(bits.TrailingZeros64(uint64(s))) {
				return
			}
		}
	}
}

// bounds are a valid family, its lists as sets.
type bounds struct {
	lo, hi   set
	min, max int
}

func boundsOf(f api.Family) bounds {
	return bounds{lo: setOf(f.Lo), hi: setOf(f.Hi), min: f.Min, max: f.Max}
}

func (b bounds) family() api.Family {
	return api.Family{Lo: slices.Collect(b.lo.all()), Hi: slices.Collect(b.hi.all()), Min: b.min, Max: b.max}
}

func (b *bounds) into(s set) { b.lo |= s }

func (b *bounds) out(s set) { b.hi &^= s }

func (b *bounds) atLeast(n int) { b.min = max(b.min, n) }

func (b *bounds) atMost(n int) { b.max = min(b.max, n) }

// normalize brings bounds to normal form, and reports whether they stand for any set.
func (b *bounds) normalize() bool {
	least, most := b.lo.size(), b.hi.size()
	b.atLeast(least)
	b.atMost(most)
	if !b.lo.isIn(b.hi) || b.min > b.max {
		return false
	}
	// As many elements as may be, or as must be: these are then all of them.
	if b.min == most {
		b.lo = b.hi
	} else if b.max == least {
		b.hi = b.lo
	}
	return true
}

// normal returns the family of the normal form.
func (b bounds) normal() (api.Family, api.Errno) {
	if !b.normalize() {
		return api.Family{}, api.ErrFail
	}
	return b.family(), api.OK
}
