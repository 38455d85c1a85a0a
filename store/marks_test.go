package store_test

import (
	"fmt"
	"math"
	"slices"
	"strings"
	"testing"

	"manystrand/api"
	"manystrand/graph"
	"manystrand/store"
)

func TestMarkUndo(t *testing.T) {
	s := making(t, "free", "free", "in 1#9")
	if m := s.Mark(); m != 0 {
		t.Errorf("P8.5: the first mark: %d", m)
	}
	s.Unify(1, 2)
	s.Var()
	if m := s.Mark(); m != 1 {
		t.Errorf("P8.5: the second mark: %d", m)
	}
	s.Tell(3, dom("2#4"))
	s.Unify(4, 1)
	s.Put(parsed("f(_3)"))
	if m := s.Mark(); m != 2 {
		t.Errorf("P8.5: the third mark: %d", m)
	}
	s.Tell(3, dom("3"))
	s.Unify(1, 5)
	if got := told(s); got != "=5; =1; 3; =1; f(1:3)" && got != "=5; =5; 3; =5; f(1:3)" {
		t.Fatalf("P8.2: %s", got)
	}
	for _, undo := range []struct {
		mark int
		want string
	}{
		{2, "free; =1; in 2#4; =1; f(1:3)"},
		{2, "free; =1; in 2#4; =1; f(1:3)"},
		{0, "free; free; in 1#9"},
		{0, "free; free; in 1#9"},
	} {
		if err := s.Undo(undo.mark); err != api.OK || told(s) != undo.want {
			t.Errorf("P8.5: Undo %d: %d; %s", undo.mark, err, told(s))
		}
	}
	for _, m := range []int{1, 2, -1, math.MaxInt, math.MinInt} {
		if err := s.Undo(m); err != api.ErrArg || told(s) != "free; free; in 1#9" {
			t.Errorf("P8.5: Undo of %d, which does not stand: %d; %s", m, err, told(s))
		}
	}
	if x, err := s.Var(); x != 4 || err != api.OK || tell(s, 4) != "free" {
		t.Errorf("P8.5: numbers come again: %d, %d", x, err)
	}
	if m := s.Mark(); m != 1 {
		t.Errorf("P8.5: a mark behind Undo: %d", m)
	}
	s.Unify(1, 2)
	if err := s.Undo(1); err != api.OK || told(s) != "free; free; in 1#9; free" {
		t.Errorf("P8.5: Undo 1: %d; %s", err, told(s))
	}
}

func TestUndoWithoutMark(t *testing.T) {
	s := making(t, "free", "a")
	s.Unify(1, 2)
	if err := s.Undo(0); err != api.ErrArg || told(s) != "=2; a" {
		t.Errorf("P8.5: Undo without a mark: %d; %s", err, told(s))
	}
	s.Mark()
	if err := s.Undo(0); err != api.OK || told(s) != "=2; a" {
		t.Errorf("P8.5: Undo takes back what was ahead of the mark: %d; %s", err, told(s))
	}
}

// TestUndoBehindFailure: what fails leaves nothing behind that Undo would meet.
func TestUndoBehindFailure(t *testing.T) {
	s := making(t, "free", "in 1#9", "f(_1 _2 a)", "f(g 5 b)")
	was := s.Copy()
	s.Mark()
	s.Tell(2, dom("4#8"))
	if _, err := s.Unify(3, 5); err != api.ErrFail {
		t.Fatalf("P8.2: Unify: %d", err)
	}
	if is, _, err := s.Entailed(3, 5); is != 0 || err != api.OK {
		t.Fatalf("P8.4: Entailed: %d, %d", is, err)
	}
	s.Tell(2, dom("7#8"))
	if err := s.Undo(0); err != api.OK || !store.Same(s, was) {
		t.Errorf("P8.5: Undo: %d; %s", err, told(s))
	}
}

func TestSame(t *testing.T) {
	states := []string{
		"free", "free; free", "in 1#3; free", "in 1#4; free", "in 1 3#4; free", "2; free", "3; free", "a; free", "b; free",
		"<cell 1>; free", "<cell 2>; free", "<port 1>; free", "free; f(_1)", "free; f(_1 _1)", "free; g(_1)", "free; f(x:_1)",
		"free; f(1:_1 x:_1)", "free; free; f(_1 _2)", "free; free; f(_2 _1)", "free; free; f(_2 _2)", "free; free; in 1#9",
	}
	for i, a := range states {
		for k, b := range states {
			if got := store.Same(making(t, strings.Split(a, "; ")...), making(t, strings.Split(b, "; ")...)); got != (i == k) {
				t.Errorf("P8.5: Same of %s and %s: %t", a, b, got)
			}
		}
	}
	bound, other := making(t, "free", "free", "free"), making(t, "free", "free", "free")
	bound.Unify(2, 1)
	other.Unify(3, 1)
	if store.Same(bound, other) || store.Same(bound, making(t, "free", "free", "free")) {
		t.Errorf("P8.5: Same of stores whose variables are bound unlike")
	}
	other = making(t, "free", "free", "free")
	other.Mark()
	other.Mark()
	other.Unify(1, 2)
	if !store.Same(bound, other) || !store.Same(other, bound) {
		t.Errorf("P8.5: marks do not count")
	}
	if !store.Same(store.New(), store.New()) {
		t.Errorf("P8.5: Same of two new ones")
	}
}

func TestCopy(t *testing.T) {
	s := making(t, "free", "free", "in 1#9")
	s.Mark()
	s.Unify(1, 2)
	s.Mark()
	s.Tell(3, dom("4"))
	c := s.Copy()
	if !store.Same(s, c) {
		t.Fatalf("P8.5: Copy: %s", told(c))
	}
	if err := c.Undo(1); err != api.OK || told(c) != "free; =1; in 1#9" || told(s) != "free; =1; 4" {
		t.Errorf("P8.5: Undo in the copy: %d; %s; the other one: %s", err, told(c), told(s))
	}
	c.Put(parsed("a"))
	c.Unify(1, 4)
	if err := s.Undo(0); err != api.OK || told(s) != "free; free; in 1#9" || told(c) != "=4; =1; in 1#9; a" && told(c) != "=4; =4; in 1#9; a" {
		t.Errorf("R7: %d; %s; the copy: %s", err, told(s), told(c))
	}
	if err := c.Undo(0); err != api.OK || !store.Same(s, c) {
		t.Errorf("P8.5: Copy has the marks, too: %d; %s", err, told(c))
	}
	if m := c.Mark(); m != 1 {
		t.Errorf("P8.5: a mark of the copy: %d", m)
	}
}

// TestMarksOfCopies: what is marked in one of two copies is not so in the other one.
func TestMarksOfCopies(t *testing.T) {
	s := making(t, "free")
	for count := range 9 {
		c := s.Copy()
		s.Mark()
		c.Var()
		c.Mark()
		c.Var()
		s.Var()
		if err := s.Undo(count); err != api.OK || s.Count() != count+1 {
			t.Errorf("R7: Undo(%d): %d; %d variables", count, err, s.Count())
		}
		if err := c.Undo(count); err != api.OK || c.Count() != count+2 {
			t.Errorf("R7: Undo(%d) in the copy: %d; %d variables", count, err, c.Count())
		}
		s.Var()
	}
}

// TestNone: nil stores, and such that are zero values.
func TestNone(t *testing.T) {
	for name, s := range map[string]*store.Store{"nil": nil, "zero": {}} {
		x1, e1 := s.Var()
		x2, e2 := s.Put(parsed("a"))
		x3, e3 := s.Put(api.Graph{Root: -1})
		_, e4 := s.Unify(0, 7)
		_, e5 := s.Tell(0, [][2]int{{5, 1}})
		n, e6 := s.Node(0)
		g, e7 := s.Graph(-1)
		is, waits, e8 := s.Entailed(0, 0)
		e9 := s.Undo(-1)
		for i, err := range []api.Errno{e1, e2, e3, e4, e5, e6, e7, e8, e9} {
			if err != api.ErrNil {
				t.Errorf("R7: %s: call %d: %d", name, i+1, err)
			}
		}
		if fmt.Sprint(n) != fmt.Sprint(api.Node{}) || len(g.Nodes) > 0 || x1+x2+x3+is != 0 || len(waits) > 0 {
			t.Errorf("R2: %s: %v, %v, %d %d %d %d, %v", name, n, g, x1, x2, x3, is, waits)
		}
		if s.Itself(0) != 0 || s.Kind(0) != "" || len(s.Domain(0)) > 0 || s.Mark() != 0 || s.Mark() != 0 || s.Count() != 0 || s.Copy() != nil {
			t.Errorf("R7: %s: %d, %q, %v, %d, %d, %v", name, s.Itself(0), s.Kind(0), s.Domain(0), s.Mark(), s.Count(), s.Copy())
		}
		if s.Itself(1) != 0 || s.Kind(1) != "" || store.Same(s, store.New()) || store.Same(store.New(), s) || store.Same(s, s) {
			t.Errorf("R7: %s: Same", name)
		}
	}
	if store.Same(nil, &store.Store{}) {
		t.Errorf("R7: Same of two that are none")
	}
}

// TestMemory: a store keeps nothing of what it is given, and gives nothing of what it keeps.
func TestMemory(t *testing.T) {
	s := making(t, "free")
	g := api.Graph{Nodes: []api.Node{{Kind: "rec", Text: "f", Feats: []api.Feat{{N: 1}, {N: 2}}, Kids: []int{1, 2}}, {Kind: "int", N: 4}, {Kind: "var", N: 1}}}
	given := fmt.Sprint(g)
	x, _ := s.Put(g)
	if fmt.Sprint(g) != given {
		t.Errorf("R4: Put changes its argument: %v", g)
	}
	g.Nodes[0].Feats[0].N, g.Nodes[0].Kids[1], g.Nodes[1].N = 7, 0, 9
	if got := told(s); got != "free; f(1:3 2:1); 4" {
		t.Errorf("R4: Put keeps its argument: %s", got)
	}
	for range 2 {
		n, _ := s.Node(x)
		n.Feats[0].N, n.Kids[0] = 9, 9
		_ = append(n.Feats[:1], api.Feat{N: 8})
		h, _ := s.Graph(x)
		h.Nodes[0].Feats[1].N, h.Nodes[0].Kids[1] = 9, 0
		if got := told(s); got != "free; f(1:3 2:1); 4" {
			t.Errorf("R4: results share memory: %s", got)
		}
	}
	y, _ := s.Var()
	d := [][2]int{{1, 3}, {5, 9}}
	s.Tell(y, d)
	d[0][1], d[1][0] = 2, 4
	s.Domain(y)[0][0] = 0
	if got := tell(s, y); got != "in 1#3 5#9" {
		t.Errorf("R4: domains share memory: %s", got)
	}
	narrow := [][2]int{{2, 7}}
	s.Tell(y, narrow)
	c := s.Copy()
	c.Domain(y)[0][0] = 0
	narrow[0][0] = 9
	touched, _ := s.Unify(1, y)
	touched[0] = 5
	if tell(s, y) != "in 2#3 5#7" || tell(c, y) != "in 2#3 5#7" {
		t.Errorf("R4: domains share memory: %s, %s", tell(s, y), tell(c, y))
	}
}

// list returns the graph of a list of the ints from 1 to n whose last rest is a variable, or, if that is 0,
// nil: 2n + 1 nodes.
func list(n, rest int) api.Graph {
	last := api.Node{Kind: "rec", Text: "nil"}
	if rest > 0 {
		last = api.Node{Kind: "var", N: rest}
	}
	var g api.Graph
	for i := range n {
		g.Nodes = append(g.Nodes,
			api.Node{Kind: "rec", Text: "|", Feats: []api.Feat{{N: 1}, {N: 2}}, Kids: []int{2*i + 1, 2*i + 2}},
			api.Node{Kind: "int", N: i + 1})
	}
	g.Nodes = append(g.Nodes, last)
	return g
}

// TestGraphLimit: it is the least graph that may have no more than MaxGraph nodes.
func TestGraphLimit(t *testing.T) {
	s := store.New()
	first, _ := s.Put(list(api.MaxGraph/2-1, 0)) // MaxGraph - 1 nodes
	second, _ := s.Put(list(api.MaxGraph/2-1, 0))
	both, _ := s.Put(parsed(fmt.Sprintf("f(_%d _%d)", first, second)))
	other, _ := s.Put(parsed(fmt.Sprintf("g(_%d)", second)))
	more, _ := s.Put(parsed(fmt.Sprintf("f(_%d _%d)", first, other)))
	g, err := s.Graph(both)
	least, _ := graph.Least(g)
	if err != api.OK || len(g.Nodes) != api.MaxGraph || fmt.Sprint(least) != fmt.Sprint(g) {
		t.Errorf("P8.3: Graph of MaxGraph nodes, twice as many variables: %d nodes, %d", len(g.Nodes), err)
	}
	if one, _ := graph.At(g, []api.Feat{{N: 2}}); !graph.Equal(one, list(api.MaxGraph/2-1, 0)) {
		t.Errorf("P8.3: Graph of MaxGraph nodes: wrong")
	}
	if g, err := s.Graph(more); err != api.ErrLimit || len(g.Nodes) > 0 {
		t.Errorf("P8.3: Graph of more than MaxGraph nodes: %d, %d", len(g.Nodes), err)
	}
	if got, _, err := s.Entailed(both, more); got != 0 || err != api.OK {
		t.Errorf("P8.4: Entailed of more than MaxGraph nodes: %d, %d", got, err)
	}
}

// TestLongLists: variables without end, as far as MaxVars allows it.
func TestLongLists(t *testing.T) {
	long := func(s *store.Store) int {
		first, _ := s.Var()
		at := first
		for s.Count()+902 < api.MaxVars/2*(1+(first-1)/(api.MaxVars/2)) {
			next, _ := s.Var()
			x, err := s.Put(list(450, next))
			if _, e := s.Unify(at, x); err != api.OK || e != api.OK {
				t.Fatalf("P8.1: %d, %d", err, e)
			}
			at = next
		}
		s.Unify(at, first)
		return first
	}
	s := store.New()
	first := long(s)
	for s.Count() < api.MaxVars/2 {
		s.Var()
	}
	second := long(s)
	// Each one goes round after many pairs, but what one sees are the same 450.
	if g, err := s.Graph(first); err != api.OK || len(g.Nodes) != 900 {
		t.Errorf("P8.3: Graph of a long cycle: %d nodes, %d", len(g.Nodes), err)
	}
	if is, waits, err := s.Entailed(first, second); is != 1 || len(waits) > 0 || err != api.OK {
		t.Errorf("P8.4: Entailed of long cycles: %d, %v, %d", is, waits, err)
	}
	touched, err := s.Unify(second, first)
	if err != api.OK || len(touched) < 9000 || !slices.IsSorted(touched) || s.Itself(first) != s.Itself(second) {
		t.Errorf("P8.2: Unify of long cycles: %d touched, %d", len(touched), err)
	}
}

// TestLongChain: variables of which each is bound to the one ahead of it.
func TestLongChain(t *testing.T) {
	s := store.New()
	for range api.MaxVars {
		s.Var()
	}
	for x := api.MaxVars; x > 1; x-- {
		if touched, err := s.Unify(x-1, x); err != api.OK || fmt.Sprint(touched) != fmt.Sprint([]int{x}) {
			t.Fatalf("P8.2: Unify(%d, %d): %v, %d", x-1, x, touched, err)
		}
	}
	for x := 1; x <= api.MaxVars; x++ {
		if s.Itself(x) != 1 {
			t.Fatalf("P8.3: Itself(%d): %d", x, s.Itself(x))
		}
	}
}
