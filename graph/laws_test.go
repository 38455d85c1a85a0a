package graph_test

import (
	"cmp"
	"fmt"
	"math/rand"
	"reflect"
	"regexp"
	"slices"
	"strings"
	"testing"

	"manystrand/api"
	"manystrand/graph"
	"manystrand/token"
	"manystrand/tree"
)

// A maker makes random graphs.
type maker struct{ *rand.Rand }

func newMaker(seed int64) maker { return maker{rand.New(rand.NewSource(seed))} }

func pick[T any](m maker, l ...T) T { return l[m.Intn(len(l))] }

// graph returns a valid graph whose nodes often look alike.
func (m maker) graph() api.Graph {
	n := 1 + m.Intn(9)
	g := api.Graph{Root: m.Intn(n)}
	for range n {
		g.Nodes = append(g.Nodes, m.node(n))
	}
	return g
}

func (m maker) node(n int) api.Node {
	kid := func() int { return m.Intn(n) }
	switch m.Intn(12) {
	case 0:
		return integer(m.Intn(3) - 1)
	case 1:
		return variable(1 + m.Intn(3))
	case 2:
		return thing(pick(m, "cell", "proc"), 1+m.Intn(2))
	case 3:
		return atom(pick(m, "a", "nil", "nil", "|", "if", "A b"))
	case 4, 5, 6, 7:
		return pair(kid(), kid())
	case 8:
		return record("#", "1", kid(), "2", kid())
	case 9:
		return record(pick(m, "f", "'", "|", "#"), "1", kid())
	case 10:
		return record(pick(m, "f", "|", "#"), pick(m, "1", "2"), kid(), pick(m, "3", "a"), kid())
	}
	return record(pick(m, "#", "|"), "1", kid(), "2", kid(), pick(m, "3", "a"), kid())
}

// like returns a graph with an equal tree: nodes are doubled, moved, and some are added.
func (m maker) like(g api.Graph) api.Graph {
	var of []int // the node of g that a new one is like
	for range 1 + m.Intn(3) {
		for n := range g.Nodes {
			of = append(of, n)
		}
	}
	m.Shuffle(len(of), func(i, j int) { of[i], of[j] = of[j], of[i] })
	places := make([][]int, len(g.Nodes))
	for place, n := range of {
		places[n] = append(places[n], place)
	}
	like := api.Graph{Root: pick(m, places[g.Root]...)}
	for _, n := range of {
		node := g.Nodes[n]
		node.Kids = nil
		for _, kid := range g.Nodes[n].Kids {
			node.Kids = append(node.Kids, pick(m, places[kid]...))
		}
		like.Nodes = append(like.Nodes, node)
	}
	like.Nodes = append(like.Nodes, variable(77), record("f", "1", 0))
	return like
}

// near returns a graph with one node changed.
func (m maker) near(g api.Graph) api.Graph {
	g.Nodes = slices.Clone(g.Nodes)
	g.Nodes[m.Intn(len(g.Nodes))] = m.node(len(g.Nodes))
	return g
}

// looksAlike compares two nodes without their Kids.
func looksAlike(a, b api.Node) bool {
	return a.Kind == b.Kind && a.N == b.N && a.Text == b.Text && slices.Equal(a.Feats, b.Feats)
}

// equalNodes is the greatest relation of the chapter: pairs are taken away as long as they are wrong.
func equalNodes(a, b api.Graph) [][]bool {
	equal := make([][]bool, len(a.Nodes))
	for x := range equal {
		equal[x] = make([]bool, len(b.Nodes))
		for y := range equal[x] {
			equal[x][y] = looksAlike(a.Nodes[x], b.Nodes[y])
		}
	}
	for changed := true; changed; {
		changed = false
		for x := range equal {
			for y := range equal[x] {
				if !equal[x][y] {
					continue
				}
				for i, kid := range a.Nodes[x].Kids {
					if !equal[kid][b.Nodes[y].Kids[i]] {
						equal[x][y], changed = false, true
					}
				}
			}
		}
	}
	return equal
}

func isEqual(a, b api.Graph) bool { return equalNodes(a, b)[a.Root][b.Root] }

func sign(less bool) int {
	if less {
		return -1
	}
	return 1
}

// order compares two nodes as the chapter lists it.
func order(a, b api.Node) int {
	kinds := []string{"int", "rec", "var", "ref"}
	if a.Kind != b.Kind {
		return cmp.Compare(slices.Index(kinds, a.Kind), slices.Index(kinds, b.Kind))
	}
	if a.Text != b.Text {
		return strings.Compare(a.Text, b.Text)
	}
	if len(a.Feats) != len(b.Feats) {
		return cmp.Compare(len(a.Feats), len(b.Feats))
	}
	for i, f := range a.Feats {
		if f != b.Feats[i] {
			return sign(tree.Less(f, b.Feats[i]))
		}
	}
	return cmp.Compare(a.N, b.N)
}

// cutOrder compares two nodes whose trees are cut at a depth.
func cutOrder(a, b api.Graph, x, y, depth int, known map[[3]int]int) int {
	if o := order(a.Nodes[x], b.Nodes[y]); o != 0 || depth == 0 {
		return o
	}
	key := [3]int{x, y, depth}
	if o, ok := known[key]; ok {
		return o
	}
	known[key] = 0
	for i, kid := range a.Nodes[x].Kids {
		if o := cutOrder(a, b, kid, b.Nodes[y].Kids[i], depth-1, known); o != 0 {
			known[key] = o
			break
		}
	}
	return known[key]
}

// compare is the chapter's order: trees that do not differ within so many levels never do.
func compare(a, b api.Graph) int {
	known := map[[3]int]int{}
	for depth := range len(a.Nodes) + len(b.Nodes) {
		if o := cutOrder(a, b, a.Root, b.Root, depth, known); o != 0 {
			return o
		}
	}
	return 0
}

// checkLeast: all nodes of a graph are reached, in the order of their numbers, and none are equal.
func checkLeast(t *testing.T, g api.Graph) {
	t.Helper()
	next, todo := 0, []int{0}
	for len(todo) > 0 {
		n := todo[len(todo)-1]
		todo = todo[:len(todo)-1]
		if n < next {
			continue
		}
		if n > next {
			t.Fatalf("P5.1: %v: node %d comes where %d should", g, n, next)
		}
		next++
		kids := slices.Clone(g.Nodes[n].Kids)
		slices.Reverse(kids)
		todo = append(todo, kids...)
	}
	if g.Root != 0 || next != len(g.Nodes) {
		t.Fatalf("P5.1: %v: Root %d, %d nodes are reached", g, g.Root, next)
	}
	equal := equalNodes(g, g)
	for x := range g.Nodes {
		for y := range g.Nodes {
			if equal[x][y] != (x == y) {
				t.Fatalf("P5.1: %v: nodes %d and %d", g, x, y)
			}
		}
	}
}

// TestLeastOfRandomGraphs: P5.1, P5.4 of Least and Equal.
func TestLeastOfRandomGraphs(t *testing.T) {
	m := newMaker(2)
	equals := 0
	for range 6000 {
		g := m.graph()
		least, err := graph.Least(g)
		if err != api.OK || !isEqual(g, least) || !graph.Equal(g, least) {
			t.Fatalf("P5.1: Least(%v): %v, %d", g, least, err)
		}
		checkLeast(t, least)
		if again, _ := graph.Least(least); !same(again, least) {
			t.Fatalf("P5.4: Least of a least graph: %v, %v", least, again)
		}
		if like, _ := graph.Least(m.like(g)); !same(like, least) {
			t.Fatalf("P5.4: Least of equal graphs: %v, %v", least, like)
		}
		for _, h := range []api.Graph{m.like(g), m.near(g), m.near(m.like(g)), m.graph()} {
			want := isEqual(g, h)
			if graph.Equal(g, h) != want || graph.Equal(h, g) != want {
				t.Fatalf("P5.1: Equal(%v, %v) is not %t", g, h, want)
			}
			other, _ := graph.Least(h)
			if same(least, other) != want {
				t.Fatalf("P5.4: Least of %v and of %v", g, h)
			}
			if want {
				equals++
			}
		}
	}
	if equals < 6000 || equals > 20000 {
		t.Errorf("%d pairs are equal", equals)
	}
}

// TestCompareOfRandomGraphs: P5.3, P5.4.
func TestCompareOfRandomGraphs(t *testing.T) {
	m := newMaker(3)
	for range 2000 {
		g := m.graph()
		l := []api.Graph{g, m.near(g), m.like(g), m.near(m.like(g)), m.graph()}
		for _, a := range l {
			for _, b := range l {
				got, err := graph.Compare(a, b)
				if want := compare(a, b); got != want || err != api.OK {
					t.Fatalf("P5.3: Compare(%v, %v): %d, %d; want %d", a, b, got, err, want)
				}
				if graph.Equal(a, b) != (got == 0) {
					t.Fatalf("P5.4: Equal(%v, %v) while Compare is %d", a, b, got)
				}
			}
		}
	}
}

// TestLongCycles: lists of two lengths that go round differ late or never.
func TestLongCycles(t *testing.T) {
	round := func(n, last int) api.Graph {
		var g api.Graph
		for i := range n {
			g.Nodes = append(g.Nodes, pair(n, (i+1)%n))
		}
		g.Nodes = append(g.Nodes, integer(1), integer(last))
		g.Nodes[n-1].Kids[0] = n + 1
		return g
	}
	a, b := round(499, 1), round(498, 1)
	if o, err := graph.Compare(a, b); o != 0 || err != api.OK {
		t.Errorf("P5.3: Compare of long cycles: %d, %d", o, err)
	}
	if l, _ := graph.Least(a); len(l.Nodes) != 2 {
		t.Errorf("P5.1: Least of a long cycle: %d nodes", len(l.Nodes))
	}
	if o, err := graph.Compare(round(499, 2), round(498, 2)); o != -1 || err != api.OK {
		t.Errorf("P5.3: Compare of long cycles that differ: %d, %d", o, err)
	}
	if l, _ := graph.Least(round(499, 2)); len(l.Nodes) != 501 {
		t.Errorf("P5.1: Least of a long cycle without equal parts: %d nodes", len(l.Nodes))
	}
}

var (
	quotedPair   = regexp.MustCompile(`'\|'\(1:[^ ()]* 2:[^ ()]*\)`)
	quotedTuple  = regexp.MustCompile(`'#'\(1:[^ ()]* 2:[^ ()]*\)`)
	someMark     = regexp.MustCompile(`C\d+=?`)
	listAsPair   = regexp.MustCompile(`\|nil\)|\|\[`)
	manyBrackets = regexp.MustCompile(`[^a-z'] *\(\)|\[\]`)
)

// checkText: the marks come in order, each one again, and nothing is written the longer way.
func checkText(t *testing.T, s string) {
	t.Helper()
	uses := map[string]int{}
	given := 0
	for _, mark := range someMark.FindAllString(s, -1) {
		name := strings.TrimSuffix(mark, "=")
		if mark != name {
			given++
			if name != fmt.Sprintf("C%d", given) || uses[name] > 0 {
				t.Fatalf("P5.1: Text %q: %s", s, mark)
			}
		}
		uses[name]++
	}
	for name, n := range uses {
		if n < 2 {
			t.Fatalf("P5.1: Text %q: %s stands once", s, name)
		}
	}
	for _, wrong := range []*regexp.Regexp{quotedPair, quotedTuple, listAsPair, manyBrackets} {
		if wrong.MatchString(s) {
			t.Fatalf("P5.1: Text %q has %q", s, wrong.FindString(s))
		}
	}
}

// TestTextOfRandomGraphs: P5.4, also of texts that another writer makes.
func TestTextOfRandomGraphs(t *testing.T) {
	m := newMaker(4)
	for range 6000 {
		g := m.graph()
		least, _ := graph.Least(g)
		s, err := graph.Text(g)
		if err != api.OK {
			t.Fatalf("P5.1: Text(%v): %d", g, err)
		}
		checkText(t, s)
		if back, err := graph.Parse(s); err != api.OK || !same(back, least) {
			t.Fatalf("P5.4: Parse of Text %q: %v, %d", s, back, err)
		}
		if like := text(m.like(g)); like != s {
			t.Fatalf("P5.4: Text of equal graphs: %q, %q", s, like)
		}
		loose := m.looseText(m.like(g))
		if back, err := graph.Parse(loose); err != api.OK || !same(back, least) {
			t.Fatalf("P5.2: Parse(%q): %q, %d; want %q", loose, text(back), err, s)
		}
	}
}

// A scribe writes a graph as loosely as Parse may read it.
type scribe struct {
	maker
	g     api.Graph
	marks map[int]string // of the nodes on the way down, and those that were written with one
	names []int          // the marks that are not used yet
}

func (m maker) looseText(g api.Graph) string {
	s := scribe{maker: m, g: g, marks: map[int]string{}, names: m.Perm(9999)[:40]}
	l, err := token.Tokens(s.value(g.Root))
	if err != api.OK {
		panic(err)
	}
	var b strings.Builder
	for i, piece := range l {
		source, _ := token.Text(piece)
		if token.IsPlain(piece.Text) && m.Intn(3) == 0 {
			source = "'" + source + "'"
		}
		// A label's bracket stands directly behind it. (No atom of these graphs stands ahead of a pair.)
		if i > 0 && (piece.Text != "(" || l[i-1].Kind != "atom") {
			b.WriteString(pick(m, " ", "  ", "\n", "\t", "%x(\n", "/*a/*(*/*/", " % ' \r\n"))
		}
		b.WriteString(source)
	}
	return b.String()
}

// value writes a node: one with a mark by its mark, or anew.
func (s *scribe) value(n int) string {
	node := s.g.Nodes[n]
	if mark := s.marks[n]; mark != "" {
		return mark
	}
	if len(node.Feats) == 0 {
		bare, _ := graph.Text(api.Graph{Root: n, Nodes: s.g.Nodes})
		return bare
	}
	s.marks[n] = fmt.Sprintf("C%d", s.names[0]+1)
	s.names = s.names[1:]
	opening := s.marks[n] + "="
	return opening + s.record(node)
}

func (s *scribe) record(node api.Node) string {
	isCounted := len(node.Feats) == 2 && node.Feats[0].N == 1 && node.Feats[1].N == 2
	if isCounted && (node.Text == "|" || node.Text == "#") && s.Intn(2) == 0 {
		return "(" + s.value(node.Kids[0]) + node.Text + s.value(node.Kids[1]) + ")"
	}
	var l []string
	for _, i := range s.Perm(len(node.Feats)) {
		f := node.Feats[i]
		feature := fmt.Sprint(f.N)
		if f.N == 0 {
			feature, _ = token.Quote(f.Text)
		}
		l = append(l, feature+":"+s.value(node.Kids[i]))
	}
	label, _ := token.Quote(node.Text)
	return label + "(" + strings.Join(l, " ") + ")"
}

// paths returns all ways down to a depth, and some that lead nowhere.
func paths(g api.Graph, n, depth int) [][]api.Feat {
	l := [][]api.Feat{nil, {named("none")}}
	if depth == 0 {
		return l
	}
	for i, kid := range g.Nodes[n].Kids {
		for _, rest := range paths(g, kid, depth-1) {
			l = append(l, append([]api.Feat{g.Nodes[n].Feats[i]}, rest...))
		}
	}
	return l
}

// TestPaths: P5.4 of At, and what is there.
func TestPaths(t *testing.T) {
	m := newMaker(5)
	for range 500 {
		g := m.graph()
		like := m.like(g)
		for _, path := range paths(g, g.Root, 4) {
			a, e1 := graph.At(g, path)
			b, e2 := graph.At(like, path)
			if e1 != e2 || !same(a, b) {
				t.Fatalf("P5.4: At(%v, %v): %v, %d; %v, %d", g, path, a, e1, b, e2)
			}
			at, found := g.Root, true
			for _, f := range path {
				i := slices.Index(g.Nodes[at].Feats, f)
				if found = i >= 0; !found {
					break
				}
				at = g.Nodes[at].Kids[i]
			}
			want, _ := graph.Least(api.Graph{Root: at, Nodes: g.Nodes})
			if found != (e1 == api.OK) || !found && e1 != api.ErrNone || found && !same(a, want) {
				t.Fatalf("P5.1: At(%v, %v): %v, %d", g, path, a, e1)
			}
		}
	}
}

// longest returns the longest way down to at most one node more than there are.
func longest(g api.Graph, n, most int) int {
	if most == 0 {
		return 0
	}
	l := 0
	for _, kid := range g.Nodes[n].Kids {
		l = max(l, longest(g, kid, most-1))
	}
	return l + 1
}

// TestMeasuresOfRandomGraphs: Depth, Cyclic, Vars, Things, Fresh.
func TestMeasuresOfRandomGraphs(t *testing.T) {
	m := newMaker(6)
	for range 3000 {
		g := m.graph()
		least, _ := graph.Least(g)
		depth := longest(least, 0, len(least.Nodes)+1)
		cyclic := depth > len(least.Nodes)
		if n, err := graph.Depth(g); cyclic != (err == api.ErrLimit) || !cyclic && (n != depth || err != api.OK) || cyclic && n != 0 {
			t.Fatalf("P5.1: Depth(%s): %d, %d", text(g), n, err)
		}
		if graph.Cyclic(g) != cyclic {
			t.Fatalf("P5.1: Cyclic(%s)", text(g))
		}
		// Each variable and each thing is one node of the least graph: in the text their first places
		// come in the order of nodes.
		var vars []int
		var things []string
		for _, s := range regexp.MustCompile(`_\d+|<\w+ \d+>`).FindAllString(text(g), -1) {
			if n := 0; s[0] == '_' {
				fmt.Sscan(s[1:], &n)
				if !slices.Contains(vars, n) {
					vars = append(vars, n)
				}
			} else if !slices.Contains(things, s) {
				things = append(things, s)
			}
		}
		if l, err := graph.Vars(g); err != api.OK || !slices.Equal(l, vars) {
			t.Fatalf("P5.1: Vars(%s): %v, %d", text(g), l, err)
		}
		l, err := graph.Things(g)
		if got := each(l, func(n api.Node) string { return text(of(n)) }); err != api.OK || !slices.Equal(got, things) {
			t.Fatalf("P5.1: Things(%s): %v, %d", text(g), l, err)
		}
		fresh, err := graph.Fresh(g)
		if err != api.OK || len(fresh.Nodes) != len(least.Nodes) {
			t.Fatalf("P5.3: Fresh(%s): %s, %d", text(g), text(fresh), err)
		}
		for i, n := range fresh.Nodes {
			if n.Kind == "var" {
				n.N = vars[n.N-1]
			}
			if !reflect.DeepEqual(n, least.Nodes[i]) {
				t.Fatalf("P5.3: Fresh(%s): %s", text(g), text(fresh))
			}
		}
	}
}

// TestListOfRandomGraphs: Items of List are the items; the variables of all are the same.
func TestListOfRandomGraphs(t *testing.T) {
	m := newMaker(7)
	for range 2000 {
		var l, least []api.Graph
		want := api.Graph{Root: 0, Nodes: []api.Node{atom("nil")}}
		for range m.Intn(5) {
			l = append(l, m.graph())
			g, _ := graph.Least(l[len(l)-1])
			least = append(least, g)
		}
		for _, item := range slices.Backward(l) {
			begin := len(want.Nodes)
			for _, n := range item.Nodes {
				n.Kids = each(n.Kids, func(kid int) int { return kid + begin })
				want.Nodes = append(want.Nodes, n)
			}
			want.Nodes = append(want.Nodes, pair(begin+item.Root, want.Root))
			want.Root = len(want.Nodes) - 1
		}
		want, _ = graph.Least(want)
		g, err := graph.List(l)
		if err != api.OK || !same(g, want) {
			t.Fatalf("P5.3: List(%q): %s, %d", show(l), text(g), err)
		}
		items, err := graph.Items(g)
		if err != api.OK || !reflect.DeepEqual(items, least) {
			t.Fatalf("P5.3: Items(%s): %q, %d", text(g), show(items), err)
		}
	}
}

// TestMemory: arguments stay as they were, and no two parts of a result share memory.
func TestMemory(t *testing.T) {
	m := newMaker(8)
	spoil := func(g api.Graph) {
		for i := range g.Nodes {
			n := &g.Nodes[i]
			for k := range n.Feats {
				n.Feats[k], n.Kids[k] = api.Feat{N: 500 + i}, -1-i
			}
			*n = api.Node{Kind: "int", N: 9, Feats: n.Feats, Kids: n.Kids}
		}
	}
	for range 300 {
		g := m.graph()
		list := []api.Graph{g, g, m.like(g)}
		before := fmt.Sprint(list)
		results := func() (l []api.Graph) {
			for _, f := range []func(api.Graph) (api.Graph, api.Errno){graph.Least, graph.Fresh} {
				r, _ := f(g)
				l = append(l, r)
			}
			at, _ := graph.At(g, nil)
			whole, _ := graph.List(list)
			items, _ := graph.Items(whole)
			return append(append(l, at, whole), items...)
		}
		first, second := results(), results()
		want := fmt.Sprint(second)
		for i := range first {
			spoil(first[i])
			// Spoiling one result leaves the results behind it.
			if got := fmt.Sprint(first[i+1:]); got != fmt.Sprint(second[i+1:]) {
				t.Fatalf("P5.1: results of %s share memory", text(g))
			}
		}
		if fmt.Sprint(list) != before || fmt.Sprint(second) != want {
			t.Fatalf("P5.1: results of %s share memory with arguments, or with each other", text(g))
		}
		least, _ := graph.Least(g)
		for i := range least.Nodes {
			for k := range least.Nodes[i].Feats {
				least.Nodes[i].Feats[k].N += 1000 * (i + 1)
				least.Nodes[i].Kids[k] += 1000 * (i + 1)
			}
		}
		again, _ := graph.Least(g)
		for i, n := range least.Nodes {
			for k := range n.Feats {
				if n.Feats[k].N != again.Nodes[i].Feats[k].N+1000*(i+1) || n.Kids[k] != again.Nodes[i].Kids[k]+1000*(i+1) {
					t.Fatalf("P5.1: nodes of %s share memory", text(g))
				}
			}
		}
	}
}
