package tree

import (
	"manystrand/api"
)

// Size returns how many phrases a tree has, fields and arms too; it stops at MaxTree + 1.
func Size(t api.Tree) int { return sizeFrom(t, 0) }

func sizeFrom(t api.Tree, size int) int {
	size++
	for _, kid := range t.Kids {
		if size > api.MaxTree {
			break
		}
		size = sizeFrom(kid, size)
	}
	return size
}

// Depth returns how deep a tree is, both ends counted; it stops at MaxNest + 1.
func Depth(t api.Tree) int {
	depth := 1
	for level := parents([]api.Tree{t}); len(level) > 0 && depth <= api.MaxNest; depth++ {
		level = parentsBelow(level)
	}
	return depth
}

// parents returns those of some phrases that have Kids.
func parents(l []api.Tree) []*api.Tree {
	var out []*api.Tree
	for i := range l {
		if len(l[i].Kids) > 0 {
			out = append(out, &l[i])
		}
	}
	return out
}

// parentsBelow returns the phrases one level deeper that have Kids. Kids that several phrases share
// count once: a tree given as raw data may share them so often that not all paths can be walked.
func parentsBelow(level []*api.Tree) []*api.Tree {
	var out []*api.Tree
	seen := map[*api.Tree]bool{}
	for _, t := range level {
		for _, kid := range parents(t.Kids) {
			if !seen[kid] {
				seen[kid] = true
				out = append(out, kid)
			}
		}
	}
	return out
}

func isWithinLimits(t api.Tree) bool {
	return Size(t) <= api.MaxTree && Depth(t) <= api.MaxNest
}

// Same reports whether two trees are the same, valid or not.
func Same(a, b api.Tree) bool { return same(&a, &b, map[[2]*api.Tree]bool{}) }

// same skips the pairs that are compared already, or are being compared: Kids may be shared, and
// even stand below themselves.
func same(a, b *api.Tree, seen map[[2]*api.Tree]bool) bool {
	if a.Do != b.Do || a.Text != b.Text || a.N != b.N || len(a.Kids) != len(b.Kids) {
		return false
	}
	for i := range a.Kids {
		pair := [2]*api.Tree{&a.Kids[i], &b.Kids[i]}
		if seen[pair] {
			continue
		}
		seen[pair] = true
		if !same(pair[0], pair[1], seen) {
			return false
		}
	}
	return true
}
