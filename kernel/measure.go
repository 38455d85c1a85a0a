package kernel

import (
	"slices"

	"manystrand/api"
)

// isWithinLimits looks at no more than MaxTree statements: Kids that are shared, or even stand below
// themselves, are counted wherever they stand.
func isWithinLimits(s api.Stmt) bool {
	left := api.MaxTree
	return fits(s, 1, &left)
}

func fits(s api.Stmt, depth int, left *int) bool {
	*left--
	if *left < 0 || depth > api.MaxNest || len(s.Args) > api.MaxArgs {
		return false
	}
	for _, kid := range s.Kids {
		if !fits(kid, depth+1, left) {
			return false
		}
	}
	return true
}

func count(s api.Stmt) int {
	n := 1
	for _, kid := range s.Kids {
		n += count(kid)
	}
	return n
}

// copied returns a statement that shares no memory, neither with another one nor within itself.
func copied(s api.Stmt) api.Stmt {
	s = copiedAlone(s)
	for i, kid := range s.Kids {
		s.Kids[i] = copied(kid)
	}
	return s
}

// copiedAlone returns a statement whose Kids share their memory with those of another one.
func copiedAlone(s api.Stmt) api.Stmt {
	s.Args, s.Feats, s.Kids = slices.Clone(s.Args), slices.Clone(s.Feats), slices.Clone(s.Kids)
	return s
}

// same skips the pairs that are compared already, or are being compared: raw data may share Kids so
// often that not all ways down can be gone, or have ways without end.
func same(a, b *api.Stmt, seen map[[2]*api.Stmt]bool) bool {
	if !isSameAlone(a, b) || len(a.Kids) != len(b.Kids) {
		return false
	}
	for i := range a.Kids {
		pair := [2]*api.Stmt{&a.Kids[i], &b.Kids[i]}
		if !seen[pair] {
			seen[pair] = true
			if !same(pair[0], pair[1], seen) {
				return false
			}
		}
	}
	return true
}

// isSameAlone looks at all but the Kids.
func isSameAlone(a, b *api.Stmt) bool {
	return a.Do == b.Do && a.Name == b.Name && a.N == b.N && slices.Equal(a.Args, b.Args) && slices.Equal(a.Feats, b.Feats)
}
