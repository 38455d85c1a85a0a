package graph

import (
	"manystrand/api"
	"manystrand/token"
	"manystrand/tree"
)

// Valid reports whether a graph is one: all its nodes, also those that are not reached.
func Valid(g api.Graph) bool {
	if len(g.Nodes) > api.MaxGraph || !isWithin(g.Root, g) {
		return false
	}
	for _, n := range g.Nodes {
		if !isNode(n, g) {
			return false
		}
	}
	return true
}

func isWithin(n int, g api.Graph) bool { return n >= 0 && n < len(g.Nodes) }

func isNode(n api.Node, g api.Graph) bool {
	switch n.Kind {
	case "int":
		return -api.MaxInt <= n.N && n.N <= api.MaxInt && n.Text == "" && isBare(n)
	case "rec":
		return n.N == 0 && token.Valid(api.Token{Kind: "atom", Text: n.Text}) && hasParts(n, g)
	case "var":
		return isNumber(n.N) && n.Text == "" && isBare(n)
	case "ref":
		return isNumber(n.N) && isSort(n.Text) && isBare(n)
	}
	return false
}

func isBare(n api.Node) bool { return len(n.Feats) == 0 && len(n.Kids) == 0 }

// isNumber reports whether a variable or a thing can have this number.
func isNumber(n int) bool { return 1 <= n && n <= api.MaxInt }

func isSort(s string) bool {
	switch s {
	case "name", "proc", "cell", "port", "lock", "dict", "array", "chunk", "space", "dead":
		return true
	}
	return false
}

// hasParts reports whether a record's features ascend, and each one leads to a node.
func hasParts(n api.Node, g api.Graph) bool {
	if len(n.Feats) != len(n.Kids) {
		return false
	}
	for i, f := range n.Feats {
		if !tree.IsFeat(f) || i > 0 && !tree.Less(n.Feats[i-1], f) || !isWithin(n.Kids[i], g) {
			return false
		}
	}
	return true
}
