package domain

import (
	"slices"

	"manystrand/api"
)

// maxLists is how many lists of values Entailed looks at.
const maxLists = 10000

// Holds reports whether a propagator holds for values, which may be any numbers.
func Holds(p api.Prop, values []int) bool {
	return ValidProp(p, len(values)) && holds(p, values)
}

func holds(p api.Prop, values []int) bool {
	at := func(k int) int { return values[p.Vars[k]] }
	switch p.Kind {
	case "sum":
		return weighed(p, values) == wideOf(p.N)
	case "most":
		return !wideOf(p.N).isLess(weighed(p, values))
	case "unlike":
		return sumOf(at(0), p.N) != wideOf(at(1))
	case "distinct":
		return areDifferent(p, values)
	case "product":
		return times(at(0), at(1)) == wideOf(at(2))
	case "element":
		i := at(0)
		return i >= 1 && i <= len(p.Coefs) && p.Coefs[i-1] == at(1)
	case "max":
		return max(at(0), at(1)) == at(2)
	case "reify":
		is := 1
		if sumOf(at(2), p.N).isLess(wideOf(at(1))) {
			is = 0
		}
		return at(0) == is
	case "apart":
		x, y := at(0), at(1)
		return !wideOf(y).isLess(sumOf(x, p.Coefs[0])) || !wideOf(x).isLess(sumOf(y, p.Coefs[1]))
	}
	return false
}

// weighed returns the sum of the Coefs times their values.
func weighed(p api.Prop, values []int) wide {
	var sum wide
	for k, x := range p.Vars {
		sum = sum.plus(times(p.Coefs[k], values[x]))
	}
	return sum
}

func areDifferent(p api.Prop, values []int) bool {
	seen := map[int]bool{}
	for _, x := range p.Vars {
		seen[values[x]] = true
	}
	return len(seen) == len(p.Vars)
}

// Entailed reports whether a propagator holds for all values of the domains.
func Entailed(p api.Prop, l [][][2]int) (bool, api.Errno) {
	if !areValid([]api.Prop{p}, l) {
		return false, api.ErrArg
	}
	if hasEmpty(l) {
		return true, api.OK
	}
	places := slices.Clone(p.Vars)
	slices.Sort(places)
	places = slices.Compact(places)
	lists := 1
	choices := make([][]int, len(places))
	for i, x := range places {
		if lists *= Size(l[x]); lists > maxLists {
			return false, api.ErrLimit
		}
		choices[i] = Values(l[x])
	}
	return holdsForAll(p, places, choices, make([]int, len(l))), api.OK
}

// holdsForAll tries all choices for the places that are left, with the values that the others have by now.
func holdsForAll(p api.Prop, places []int, choices [][]int, values []int) bool {
	if len(places) == 0 {
		return holds(p, values)
	}
	return all(choices[0], func(v int) bool {
		values[places[0]] = v
		return holdsForAll(p, places[1:], choices[1:], values)
	})
}
