// Package equal tells which nodes of a graph are equal, and joins them, also of a graph that has too many
// nodes to be valid.
package equal

import (
	"cmp"
	"slices"
	"strconv"
	"strings"

	"manystrand/api"
)

// Classes returns a number for each node: equal nodes have the same one. The numbers are 0, 1, .. in the
// order of the first nodes that have them, and count is how many there are. All Kids must be numbers of
// nodes.
func Classes(nodes []api.Node) (of []int, count int) {
	c := byShape(nodes)
	into := make([][]edge, len(nodes))
	for n := range nodes {
		for at, kid := range nodes[n].Kids {
			into[kid] = append(into[kid], edge{n, at})
		}
	}
	// What a cut makes stands behind all others: the classes are their own queue.
	for i := 0; i < len(c.begin); i++ {
		c.divide(c.edgesInto(i, into))
	}
	return numbered(c.of)
}

// numbered gives keys the numbers 0, 1, .. in the order in which they first come.
func numbered[K comparable](keys []K) (numbers []int, count int) {
	known := map[K]int{}
	for _, key := range keys {
		n, is := known[key]
		if !is {
			n = len(known)
			known[key] = n
		}
		numbers = append(numbers, n)
	}
	return numbers, len(known)
}

// Classes divide the nodes of a graph. They are cut into smaller ones until all nodes of each one are
// equal (Hopcroft's way: of a class that was cut only the smaller part is looked at again).
type classes struct {
	of     []int // the class of each node
	nodes  []int // all nodes, class by class
	place  []int // the place of each node in nodes
	begin  []int // where each class begins in nodes
	end    []int // where it ends
	marked []int // how many nodes at its begin are marked
}

// An edge goes down from a node by its Kid at a place.
type edge struct{ from, at int }

// byShape returns the classes of nodes that look alike.
func byShape(nodes []api.Node) *classes {
	shapes := make([]shape, len(nodes))
	for i, n := range nodes {
		shapes[i] = shapeOf(n)
	}
	of, count := numbered(shapes)
	c := &classes{of, make([]int, len(nodes)), make([]int, len(nodes)), make([]int, count), make([]int, count), make([]int, count)}
	for _, class := range of {
		c.end[class]++
	}
	for i := 1; i < len(c.end); i++ {
		c.end[i] += c.end[i-1]
		c.begin[i] = c.end[i-1]
	}
	next := slices.Clone(c.begin)
	for n, class := range c.of {
		c.put(n, next[class])
		next[class]++
	}
	return c
}

func (c *classes) put(n, place int) {
	c.nodes[place] = n
	c.place[n] = place
}

// edgesInto returns the edges that lead to the nodes of a class, those of one place together.
func (c *classes) edgesInto(class int, into [][]edge) []edge {
	var l []edge
	for _, n := range c.nodes[c.begin[class]:c.end[class]] {
		l = append(l, into[n]...)
	}
	slices.SortFunc(l, func(a, b edge) int { return cmp.Compare(a.at, b.at) })
	return l
}

// divide takes nodes apart of which some have an edge of the same place into one class and some not.
func (c *classes) divide(edges []edge) {
	for len(edges) > 0 {
		var touched []int
		at := edges[0].at
		for len(edges) > 0 && edges[0].at == at {
			class := c.of[edges[0].from]
			if c.marked[class] == 0 {
				touched = append(touched, class)
			}
			c.mark(edges[0].from)
			edges = edges[1:]
		}
		for _, class := range touched {
			c.cut(class)
		}
	}
}

// mark brings a node to the begin of its class.
func (c *classes) mark(n int) {
	class := c.of[n]
	place := c.begin[class] + c.marked[class]
	c.put(c.nodes[place], c.place[n])
	c.put(n, place)
	c.marked[class]++
}

// cut parts the marked nodes of a class from the other ones: the smaller part is a new class.
func (c *classes) cut(class int) {
	begin, end := c.begin[class], c.end[class]
	middle := begin + c.marked[class]
	c.marked[class] = 0
	switch {
	case middle == end:
		return
	case middle-begin < end-middle:
		c.begin[class] = middle
		end = middle
	default:
		c.end[class] = middle
		begin = middle
	}
	for _, n := range c.nodes[begin:end] {
		c.of[n] = len(c.begin)
	}
	c.begin = append(c.begin, begin)
	c.end = append(c.end, end)
	c.marked = append(c.marked, 0)
}

// A shape is what is seen of a node without going down.
type shape struct {
	kind, text string
	n          int
	feats      string
}

func shapeOf(n api.Node) shape {
	s := shape{kind: n.Kind, text: n.Text, n: n.N}
	if len(n.Feats) == 0 {
		return s
	}
	// The length of an atom stands ahead of it: an atom may have any bytes.
	var b strings.Builder
	for _, f := range n.Feats {
		b.WriteString(strconv.Itoa(f.N) + " " + strconv.Itoa(len(f.Text)) + " " + f.Text)
	}
	s.feats = b.String()
	return s
}
