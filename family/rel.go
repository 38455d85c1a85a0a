package family

import (
	"slices"

	"manystrand/api"
)

// maxVars is how many Vars a relation has at most.
const maxVars = 3

// ValidRel reports whether a relation is one of a list of n families.
func ValidRel(r api.Rel, n int) bool {
	isOut := func(x int) bool { return x < 0 || x >= n }
	count, ok := countVars(r.Kind)
	return ok && n <= api.MaxPlaces && len(r.Vars) == count && !slices.ContainsFunc(r.Vars, isOut)
}

// countVars returns how many Vars a relation of a Kind has.
func countVars(kind string) (n int, ok bool) {
	switch kind {
	case "has", "lacks", "size":
		return 1, true
	case "part", "apart":
		return 2, true
	case "union", "meet", "minus":
		return maxVars, true
	}
	return 0, false
}

// areValid reports whether families and relations of them are valid, and not too many.
func areValid(rels []api.Rel, l []api.Family) bool {
	return len(l) <= api.MaxPlaces && len(rels) <= api.MaxProps &&
		!slices.ContainsFunc(l, func(f api.Family) bool { return !Valid(f) }) &&
		!slices.ContainsFunc(rels, func(r api.Rel) bool { return !ValidRel(r, len(l)) })
}

// Holds reports whether a relation holds for sets, which may be of any numbers.
func Holds(r api.Rel, l [][]int) bool {
	if !ValidRel(r, len(l)) || slices.ContainsFunc(l, func(s []int) bool { return !ascends(s) }) {
		return false
	}
	var at [maxVars][]int
	for k, x := range r.Vars {
		at[k] = l[x]
	}
	a, b, c := at[0], at[1], at[2]
	switch r.Kind {
	case "part":
		return isPart(a, b)
	case "apart":
		return len(common(a, b)) == 0
	case "union":
		return isPart(a, c) && isPart(b, c) && isPart(without(c, a), b)
	case "meet":
		return slices.Equal(common(a, b), c)
	case "minus":
		return slices.Equal(without(a, b), c)
	case "has":
		return contains(a, r.N)
	case "lacks":
		return !contains(a, r.N)
	case "size":
		return len(a) == r.N
	}
	return false
}

func isPart(a, b []int) bool { return len(without(a, b)) == 0 }

func contains(a []int, n int) bool {
	_, found := slices.BinarySearch(a, n)
	return found
}

// common returns what is in both of two sets.
func common(a, b []int) []int {
	return slices.DeleteFunc(slices.Clone(a), func(n int) bool { return !contains(b, n) })
}

// without returns what is in the first set alone.
func without(a, b []int) []int {
	return slices.DeleteFunc(slices.Clone(a), func(n int) bool { return contains(b, n) })
}
