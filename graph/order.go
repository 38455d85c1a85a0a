package graph

import (
	"cmp"
	"iter"
	"slices"

	"manystrand/api"
	"manystrand/tree"
)

// compareNodes orders two nodes by what is seen without going down.
func compareNodes(a, b api.Node) int {
	return cmp.Or(
		cmp.Compare(rank(a), rank(b)),
		cmp.Compare(a.Text, b.Text),
		cmp.Compare(len(a.Feats), len(b.Feats)),
		slices.CompareFunc(a.Feats, b.Feats, compareFeats),
		cmp.Compare(a.N, b.N),
	)
}

// rank is the place of a node's kind in the order of nodes.
func rank(n api.Node) int {
	switch n.Kind {
	case "int":
		return 1
	case "rec":
		return 2
	case "var":
		return 3
	}
	return 4
}

func compareFeats(a, b api.Feat) int {
	switch {
	case tree.Less(a, b):
		return -1
	case tree.Less(b, a):
		return 1
	}
	return 0
}

// pairs goes through the pairs of nodes that stand at the same places of two trees, level by level, each
// level from the left. It goes on as long as the pairs look alike.
//
// A pair is left out if a chain of pairs ahead of it leads from its one node to its other one: if the
// pair's trees differ somewhere, those of a pair of the chain differ at such a place, too, or above it,
// which comes first. So no more pairs are looked at than there are nodes.
func pairs(a, b api.Graph) iter.Seq2[api.Node, api.Node] {
	return func(yield func(x, y api.Node) bool) {
		chains := newSets(len(a.Nodes) + len(b.Nodes))
		queue := [][2]int{{a.Root, b.Root}}
		for i := 0; i < len(queue); i++ {
			x, y := queue[i][0], queue[i][1]
			if !chains.join(x, len(a.Nodes)+y) {
				continue
			}
			if !yield(a.Nodes[x], b.Nodes[y]) {
				return
			}
			for k, kid := range a.Nodes[x].Kids {
				queue = append(queue, [2]int{kid, b.Nodes[y].Kids[k]})
			}
		}
	}
}

// Sets are disjoint sets of numbers: each number leads to another one of its set, or is its head.
type sets []int

func newSets(n int) sets {
	s := make(sets, n)
	for i := range s {
		s[i] = i
	}
	return s
}

func (s sets) head(n int) int {
	for s[n] != n {
		s[n] = s[s[n]]
		n = s[n]
	}
	return n
}

// join makes one set of those of two numbers, and reports whether they were two.
func (s sets) join(a, b int) bool {
	a, b = s.head(a), s.head(b)
	s[a] = b
	return a != b
}
