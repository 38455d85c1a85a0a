package family

import "manystrand/api"

// maxCount is the greatest number that Count returns.
const maxCount = 1 << 62

// Count returns how many sets a family stands for.
func Count(f api.Family) (int, api.Errno) {
	if !Valid(f) {
		return 0, api.ErrArg
	}
	b := boundsOf(f)
	if !b.normalize() {
		return 0, api.OK
	}
	known := b.lo.size()
	count := 0
	for _, n := range choices(b.hi.size() - known)[b.min-known : b.max-known+1] {
		// The greatest choice is less than 2^61, so that the sum still fits.
		if count += n; count > maxCount {
			return 0, api.ErrLimit
		}
	}
	return count, api.OK
}

// choices returns how many sets of 0, 1, .. n elements there are of n elements, by Pascal's triangle.
func choices(n int) []int {
	row := make([]int, n+1)
	row[0] = 1
	for last := 1; last <= n; last++ {
		for k := last; k > 0; k-- {
			row[k] += row[k-1]
		}
	}
	return row
}
