package graph

import (
	"manystrand/api"
)

// A diver measures the longest ways down.
type diver struct {
	nodes  []api.Node
	depths []int // of nodes: 0 not known yet
	above  []bool
}

// depth returns the length of the longest way down, or ErrLimit if one has no end.
func depth(g api.Graph) (int, api.Errno) {
	d := diver{nodes: g.Nodes, depths: make([]int, len(g.Nodes)), above: make([]bool, len(g.Nodes))}
	return d.below(g.Root)
}

func (d *diver) below(n int) (int, api.Errno) {
	if d.above[n] {
		return 0, api.ErrLimit
	}
	if d.depths[n] > 0 {
		return d.depths[n], api.OK
	}
	d.above[n] = true
	most := 0
	for _, kid := range d.nodes[n].Kids {
		depth, err := d.below(kid)
		if err != api.OK {
			return 0, err
		}
		most = max(most, depth)
	}
	d.above[n] = false
	d.depths[n] = most + 1
	return most + 1, api.OK
}
