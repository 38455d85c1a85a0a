package graph

import (
	"strconv"
	"strings"

	"manystrand/api"
	"manystrand/token"
)

// A writer writes the text of a least graph.
type writer struct {
	strings.Builder
	g      api.Graph
	shared []bool     // which nodes have a mark
	marks  table[int] // the marks that are written
}

func newWriter(g api.Graph) *writer {
	places := make([]int, len(g.Nodes))
	places[g.Root]++
	for _, n := range g.Nodes {
		for _, kid := range n.Kids {
			places[kid]++
		}
	}
	w := &writer{g: g, shared: make([]bool, len(g.Nodes)), marks: table[int]{}}
	for n, count := range places {
		w.shared[n] = count > 1 && len(g.Nodes[n].Feats) > 0
	}
	return w
}

func (w *writer) value(n int) {
	node := w.g.Nodes[n]
	switch {
	case w.shared[n]:
		mark, isFirst := w.marks.number(n)
		w.WriteString("C" + strconv.Itoa(mark+1))
		if isFirst {
			w.WriteByte('=')
			w.record(n)
		}
	case node.Kind == "int":
		w.WriteString(strings.Replace(strconv.Itoa(node.N), "-", "~", 1))
	case node.Kind == "var":
		w.WriteString("_" + strconv.Itoa(node.N))
	case node.Kind == "ref":
		w.WriteString("<" + node.Text + " " + strconv.Itoa(node.N) + ">")
	default:
		w.record(n)
	}
}

func (w *writer) record(n int) {
	node := w.g.Nodes[n]
	switch {
	case isPair(node) && w.isList(n):
		w.list(n)
	case isPair(node) || isTuple(node):
		w.between("(", node.Kids, node.Text, ")")
	default:
		w.atom(node.Text)
		w.fields(node)
	}
}

// isList reports whether a pair is written as a list: whether none but its first pair needs a mark.
func (w *writer) isList(n int) bool {
	pairs, closed := chain(w.g, n)
	for _, p := range pairs[1:] {
		closed = closed && !w.shared[p]
	}
	return closed
}

func (w *writer) list(n int) {
	var items []int
	pairs, _ := chain(w.g, n)
	for _, p := range pairs {
		items = append(items, w.g.Nodes[p].Kids[0])
	}
	w.between("[", items, " ", "]")
}

// between writes values with a text between each two, in brackets.
func (w *writer) between(opening string, values []int, gap, closing string) {
	w.WriteString(opening)
	for i, n := range values {
		if i > 0 {
			w.WriteString(gap)
		}
		w.value(n)
	}
	w.WriteString(closing)
}

func (w *writer) atom(text string) {
	source, _ := token.Quote(text) // a valid graph has such texts only
	w.WriteString(source)
}

// fields writes the features and the parts of a record, if it has some.
func (w *writer) fields(node api.Node) {
	if len(node.Feats) == 0 {
		return
	}
	gap := byte('(')
	for i, f := range node.Feats {
		w.WriteByte(gap)
		gap = ' '
		if f.N > 0 {
			w.WriteString(strconv.Itoa(f.N))
		} else {
			w.atom(f.Text)
		}
		w.WriteByte(':')
		w.value(node.Kids[i])
	}
	w.WriteByte(')')
}
