package store

import (
	"slices"

	"manystrand/api"
)

// A state is what a variable is: bound, ranged or determined, or, if it is zero, free. Its domain and its
// node are never changed, so that stores may share them.
type state struct {
	to     int       // bound to this variable
	domain [][2]int  // ranged
	node   *api.Node // determined; its Kids are variables, as they were named, bound ones too
}

// The ranks of states of variables that are not bound: what is less known is bound to what is more known.
const (
	free = iota
	ranged
	determined
)

func (s state) rank() int {
	switch {
	case s.node != nil:
		return determined
	case s.domain != nil:
		return ranged
	}
	return free
}

// isInt reports whether it is the state of a variable that is determined by an int.
func (s state) isInt() bool { return s.node != nil && s.node.Kind == "int" }

func sameState(a, b state) bool {
	if a.to != b.to || !slices.Equal(a.domain, b.domain) || a.rank() != b.rank() {
		return false
	}
	return a.node == b.node || looksLike(a.node, b.node) && slices.Equal(a.node.Kids, b.node.Kids)
}

// looksLike reports whether two nodes are alike but for their parts.
func looksLike(a, b *api.Node) bool {
	return a.Kind == b.Kind && a.N == b.N && a.Text == b.Text && slices.Equal(a.Feats, b.Feats)
}
