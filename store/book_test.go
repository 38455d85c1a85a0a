package store_test

import (
	"math/rand"
	"slices"

	"manystrand/api"
	"manystrand/domain"
	"manystrand/graph"
	"manystrand/store"
)

// A book is a second reading of the chapter: what all variables are, as the chapter's sentences say it one by
// one. What may fail is done in a copy, and a mark is a copy of all.
type book struct {
	lines []line // from 1 on
	marks [][]line
}

// A line is what a variable is: bound, one of several values, a node, or, if all is zero, free.
type line struct {
	to     int
	values []int
	node   *api.Node
}

func newBook() *book { return &book{lines: make([]line, 1)} }

func (b *book) count() int { return len(b.lines) - 1 }

func (b *book) itself(x int) int {
	if b.lines[x].to == 0 {
		return x
	}
	return b.itself(b.lines[x].to)
}

func (l line) isFree() bool { return l.to == 0 && l.values == nil && l.node == nil }

func (l line) isInt(among []int) bool {
	return l.node != nil && l.node.Kind == "int" && slices.Contains(among, l.node.N)
}

// lineOf returns the line of one of some values.
func lineOf(values []int) line {
	if len(values) == 1 {
		return line{node: &api.Node{Kind: "int", N: values[0]}}
	}
	return line{values: values}
}

func both(a, b []int) (l []int) {
	for _, v := range a {
		if slices.Contains(b, v) {
			l = append(l, v)
		}
	}
	return l
}

// unify does what the chapter says, and reports whether it did not fail.
func (b *book) unify(x, y int) bool {
	x, y = b.itself(x), b.itself(y)
	if x == y {
		return true
	}
	x, y = min(x, y), max(x, y)
	p, q := b.lines[x], b.lines[y]
	switch {
	case p.isFree() && q.isFree():
		b.lines[y] = line{to: x}
	case p.isFree():
		b.lines[x] = line{to: y}
	case q.isFree():
		b.lines[y] = line{to: x}
	case p.values != nil && q.values != nil:
		b.lines[y] = line{to: x}
		b.lines[x] = lineOf(both(p.values, q.values))
		return len(both(p.values, q.values)) > 0
	case p.values != nil:
		b.lines[x] = line{to: y}
		return q.isInt(p.values)
	case q.values != nil:
		b.lines[y] = line{to: x}
		return p.isInt(q.values)
	default:
		b.lines[y] = line{to: x}
		if !alike(p.node, q.node) {
			return false
		}
		for i := range p.node.Kids {
			if !b.unify(p.node.Kids[i], q.node.Kids[i]) {
				return false
			}
		}
	}
	return true
}

func alike(a, b *api.Node) bool {
	return a.Kind == b.Kind && a.Text == b.Text && a.N == b.N && slices.Equal(a.Feats, b.Feats)
}

// tell does what the chapter says, and reports whether it did not fail.
func (b *book) tell(x int, values []int) bool {
	x = b.itself(x)
	switch l := b.lines[x]; {
	case len(values) == 0:
		return false
	case l.isFree():
		b.lines[x] = lineOf(values)
	case l.values != nil:
		b.lines[x] = lineOf(both(l.values, values))
		return len(both(l.values, values)) > 0
	default:
		return l.isInt(values)
	}
	return true
}

// wholly does something, or nothing, if it fails, and returns what was touched.
func (b *book) wholly(do func(*book) bool) (touched []int, ok bool) {
	after := &book{lines: slices.Clone(b.lines)}
	if !do(after) {
		return nil, false
	}
	for x, was := range b.lines {
		is := after.lines[x]
		isOther := is.to != 0 || was.node != is.node || !slices.Equal(was.values, is.values)
		if x > 0 && was.to == 0 && isOther {
			touched = append(touched, x)
		}
	}
	b.lines = after.lines
	return touched, true
}

// put makes variables of the least graph's nodes.
func (b *book) put(g api.Graph) int {
	g, _ = graph.Least(g)
	next := b.count()
	var of []int
	for _, n := range g.Nodes {
		if n.Kind == "var" {
			of = append(of, n.N)
			continue
		}
		next++
		of = append(of, next)
	}
	for _, n := range g.Nodes {
		if n.Kind == "var" {
			continue
		}
		kids := n.Kids
		n.Kids = nil
		for _, kid := range kids {
			n.Kids = append(n.Kids, of[kid])
		}
		b.lines = append(b.lines, line{node: &n})
	}
	return of[g.Root]
}

func (b *book) undo(mark int) bool {
	if mark < 0 || mark >= len(b.marks) {
		return false
	}
	b.lines, b.marks = slices.Clone(b.marks[mark]), b.marks[:mark+1]
	return true
}

// equals returns the greatest relation by which equal variables look alike and have equal parts.
func (b *book) equals() [][]bool {
	n := len(b.lines)
	eq := make([][]bool, n)
	for x := 1; x < n; x++ {
		eq[x] = make([]bool, n)
		for y := 1; y < n; y++ {
			p, q := b.lines[b.itself(x)], b.lines[b.itself(y)]
			eq[x][y] = b.itself(x) == b.itself(y) || p.node != nil && q.node != nil && alike(p.node, q.node)
		}
	}
	for changed := true; changed; {
		changed = false
		for x := 1; x < n; x++ {
			for y := 1; y < n; y++ {
				p, q := b.lines[b.itself(x)].node, b.lines[b.itself(y)].node
				if !eq[x][y] || p == nil || q == nil {
					continue
				}
				for i := range p.Kids {
					if eq[x][y] && !eq[p.Kids[i]][q.Kids[i]] {
						eq[x][y], changed = false, true
					}
				}
			}
		}
	}
	return eq
}

// entailed says what the chapter says of two variables.
func (b *book) entailed(x, y int) (is int, waits []int) {
	if b.equals()[x][y] {
		return 1, nil
	}
	after := &book{lines: slices.Clone(b.lines)}
	touched, ok := after.wholly(func(b *book) bool { return b.unify(x, y) })
	if !ok {
		return 0, nil
	}
	return -1, slices.DeleteFunc(touched, func(x int) bool { return b.lines[x].node != nil })
}

// node returns what a variable itself is.
func (b *book) node(x int) api.Node {
	x = b.itself(x)
	if b.lines[x].node == nil {
		return api.Node{Kind: "var", N: x}
	}
	n := *b.lines[x].node
	n.Kids = slices.Clone(n.Kids)
	for i, kid := range n.Kids {
		n.Kids[i] = b.itself(kid)
	}
	return n
}

// graph returns the least graph of what a variable is.
func (b *book) graph(x int) api.Graph {
	g := api.Graph{Root: x - 1}
	for x := 1; x <= b.count(); x++ {
		n := b.node(x)
		for i := range n.Kids {
			n.Kids[i]--
		}
		g.Nodes = append(g.Nodes, n)
	}
	g, _ = graph.Least(g)
	return g
}

// kind returns what a variable is.
func (b *book) kind(x int) string {
	l := b.lines[b.itself(x)]
	switch {
	case l.isFree():
		return "free"
	case l.values != nil:
		return "ranged"
	case l.node.Kind == "ref":
		return l.node.Text
	}
	return l.node.Kind
}

// domain returns the values that a variable may have.
func (b *book) domain(x int) (d [][2]int) {
	l := b.lines[b.itself(x)]
	if l.node != nil && l.node.Kind == "int" {
		return [][2]int{{l.node.N, l.node.N}}
	}
	d, _ = domain.Of(l.values)
	return d
}

// A maker makes random stores.
type maker struct{ *rand.Rand }

func newMaker(seed int64) maker { return maker{rand.New(rand.NewSource(seed))} }

func pick[T any](m maker, l ...T) T { return l[m.Intn(len(l))] }

// values returns some small numbers, ascending; seldom none, or one that stands alone.
func (m maker) values() (l []int) {
	for v := range 6 {
		if m.Intn(3) > 0 {
			l = append(l, v)
		}
	}
	return l
}

// graph returns a graph with few nodes; its variables are some of the first ones.
func (m maker) graph(vars int) api.Graph {
	n := 1 + m.Intn(4)
	g := api.Graph{Root: m.Intn(n)}
	for range n {
		node := api.Node{Kind: "rec", Text: pick(m, "f", "f", "f", "g")}
		switch m.Intn(9) {
		case 0:
			node = api.Node{Kind: "int", N: m.Intn(7) - 1}
		case 1:
			node = api.Node{Kind: "ref", Text: pick(m, "cell", "name"), N: 1 + m.Intn(2)}
		case 2, 3, 4:
			if vars > 0 {
				node = api.Node{Kind: "var", N: 1 + m.Intn(vars)}
			}
		case 5:
			node.Feats = []api.Feat{{N: 1}}
		default:
			node.Feats = []api.Feat{{N: 1}, pick(m, api.Feat{N: 2}, api.Feat{N: 2}, api.Feat{Text: "a"})}
		}
		for range node.Feats {
			node.Kids = append(node.Kids, m.Intn(n))
		}
		g.Nodes = append(g.Nodes, node)
	}
	return g
}

// both returns a store and a book with the same variables, about so many.
func (m maker) both(count int) (*store.Store, *book) {
	s, b := store.New(), newBook()
	for s.Count() < count {
		m.grow(s, b)
	}
	return s, b
}

// grow makes one more variable of both, or some.
func (m maker) grow(s *store.Store, b *book) {
	switch m.Intn(3) {
	case 0:
		s.Var()
		b.lines = append(b.lines, line{})
	case 1:
		x, _ := s.Var()
		b.lines = append(b.lines, line{})
		values := m.values()
		d, _ := domain.Of(values)
		s.Tell(x, d)
		b.wholly(func(b *book) bool { return b.tell(x, values) })
	case 2:
		g := m.graph(s.Count())
		s.Put(g)
		b.put(g)
	}
}
