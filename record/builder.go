package record

import (
	"sort"

	"manystrand/api"
	"manystrand/equal"
	"manystrand/tree"
)

// A builder builds a record of parts of graphs.
type builder struct {
	nodes []api.Node       // of all graphs
	parts map[api.Feat]int // the nodes that the record's parts are
}

func newBuilder() *builder { return &builder{parts: map[api.Feat]int{}} }

// put gives the record a part, in the place of what it may have there.
func (b *builder) put(f api.Feat, v api.Graph) {
	b.nodes, b.parts[f] = equal.Beside(b.nodes, v)
}

// putAll gives the record all parts of another one, and returns that one's node.
func (b *builder) putAll(g api.Graph) api.Node {
	var at int
	b.nodes, at = equal.Beside(b.nodes, g)
	root := b.nodes[at]
	for i, f := range root.Feats {
		b.parts[f] = root.Kids[i]
	}
	return root
}

// record returns the least graph of the record.
func (b *builder) record(label string) (api.Graph, api.Errno) {
	root := api.Node{Kind: "rec", Text: label}
	for f := range b.parts {
		root.Feats = append(root.Feats, f)
	}
	root.Feats = inOrder(root.Feats)
	for _, f := range root.Feats {
		root.Kids = append(root.Kids, b.parts[f])
	}
	g := equal.Least(api.Graph{Root: len(b.nodes), Nodes: append(b.nodes, root)})
	if len(g.Nodes) > api.MaxGraph {
		return api.Graph{}, api.ErrLimit
	}
	return g, api.OK
}

// inOrder returns features in their order.
func inOrder(l []api.Feat) []api.Feat {
	l = append([]api.Feat(nil), l...)
	sort.Slice(l, func(i, j int) bool { return tree.Less(l[i], l[j]) })
	return l
}
