package store_test

import (
	"fmt"
	"math"
	"slices"
	"testing"

	"manystrand/api"
	"manystrand/domain"
	"manystrand/graph"
	"manystrand/store"
)

// differs returns what a store tells of its variables that a book tells otherwise.
func differs(s *store.Store, b *book) string {
	if s.Count() != b.count() {
		return fmt.Sprintf("P8.5: Count: %d, not %d", s.Count(), b.count())
	}
	for x := 1; x <= s.Count(); x++ {
		n, _ := s.Node(x)
		g, err := s.Graph(x)
		switch {
		case s.Itself(x) != b.itself(x):
			return fmt.Sprintf("P8.2: Itself(%d): %d, not %d", x, s.Itself(x), b.itself(x))
		case s.Kind(x) != b.kind(x):
			return fmt.Sprintf("P8.3: Kind(%d): %s, not %s", x, s.Kind(x), b.kind(x))
		case fmt.Sprint(s.Domain(x)) != fmt.Sprint(b.domain(x)):
			return fmt.Sprintf("P8.3: Domain(%d): %v, not %v", x, s.Domain(x), b.domain(x))
		case fmt.Sprint(n) != fmt.Sprint(b.node(x)):
			return fmt.Sprintf("P8.3: Node(%d): %v, not %v", x, n, b.node(x))
		case fmt.Sprint(g) != fmt.Sprint(b.graph(x)) || err != api.OK:
			return fmt.Sprintf("P8.3: Graph(%d): %v, %d, not %v", x, g, err, b.graph(x))
		}
	}
	return ""
}

// TestByTheBook: a store tells what the second reading tells, whatever is done.
func TestByTheBook(t *testing.T) {
	m := newMaker(801)
	for range 1500 {
		s, b := m.both(4 + m.Intn(5))
		for range 25 {
			did := m.deed(t, s, b)
			if wrong := differs(s, b); wrong != "" {
				t.Fatalf("%s behind %s", wrong, did)
			}
		}
	}
}

// deed does the same in a store and in a book.
func (m maker) deed(t *testing.T, s *store.Store, b *book) string {
	t.Helper()
	x, y := 1+m.Intn(s.Count()), 1+m.Intn(s.Count())
	switch m.Intn(8) {
	case 0, 1, 2:
		touched, err := s.Unify(x, y)
		want, ok := b.wholly(func(b *book) bool { return b.unify(x, y) })
		if (err == api.OK) != ok || err != api.OK && err != api.ErrFail || !slices.Equal(touched, want) {
			t.Fatalf("P8.2: Unify(%d, %d): %v, %d, not %v; behind it %s", x, y, touched, err, want, told(s))
		}
		return fmt.Sprintf("Unify(%d, %d): %d", x, y, err)
	case 3:
		values := m.values()
		d, _ := domain.Of(values)
		touched, err := s.Tell(x, d)
		want, ok := b.wholly(func(b *book) bool { return b.tell(x, values) })
		if (err == api.OK) != ok || err != api.OK && err != api.ErrFail || !slices.Equal(touched, want) {
			t.Fatalf("P8.2: Tell(%d, %v): %v, %d, not %v; behind it %s", x, d, touched, err, want, told(s))
		}
		return fmt.Sprintf("Tell(%d, %v): %d", x, d, err)
	case 4:
		mark := s.Mark()
		b.marks = append(b.marks, slices.Clone(b.lines))
		if mark != len(b.marks)-1 {
			t.Fatalf("P8.5: Mark: %d, not %d", mark, len(b.marks)-1)
		}
		return "Mark"
	case 5:
		mark := m.Intn(len(b.marks)+3) - 1
		if err := s.Undo(mark); (err == api.OK) != b.undo(mark) || err != api.OK && err != api.ErrArg {
			t.Fatalf("P8.5: Undo(%d): %d", mark, err)
		}
		return fmt.Sprintf("Undo(%d)", mark)
	case 6:
		if s.Count() < 14 {
			m.grow(s, b)
		}
		return "more"
	}
	is, waits, err := s.Entailed(x, y)
	if want, on := b.entailed(x, y); is != want || !slices.Equal(waits, on) || err != api.OK {
		t.Fatalf("P8.4: Entailed(%d, %d): %d, %v, %d, not %d, %v; %s", x, y, is, waits, err, want, on, told(s))
	}
	return fmt.Sprintf("Entailed(%d, %d)", x, y)
}

// A closure is the least that follows from making some variables one: which ones are one, and what each
// class may be.
type closure struct {
	class   []int // the least variable of the class
	domains map[int][][2]int
}

// closed returns what follows from making two variables one; ok is false if there is a contradiction.
func closed(s *store.Store, x, y int) (c closure, ok bool) {
	c.class = make([]int, s.Count()+1)
	for v := 1; v <= s.Count(); v++ {
		c.class[v] = v
	}
	for v := 1; v <= s.Count(); v++ {
		c.merge(v, s.Itself(v))
	}
	c.merge(x, y)
	for again := true; again; {
		again = false
		for v := 1; v <= s.Count(); v++ {
			for w := 1; w <= s.Count(); w++ {
				p, _ := s.Node(v)
				q, _ := s.Node(w)
				if c.class[v] != c.class[w] || p.Kind == "var" || q.Kind == "var" {
					continue
				}
				if !alike(&p, &q) {
					return c, false
				}
				for i := range p.Kids {
					again = c.merge(p.Kids[i], q.Kids[i]) || again
				}
			}
		}
	}
	return c, c.meet(s)
}

func (c closure) merge(x, y int) bool {
	from, to := max(c.class[x], c.class[y]), min(c.class[x], c.class[y])
	for v := range c.class {
		if c.class[v] == from {
			c.class[v] = to
		}
	}
	return from != to
}

// meet finds what values each class has; it reports whether each one that must be an int has any.
func (c *closure) meet(s *store.Store) bool {
	c.domains = map[int][][2]int{}
	for v := 1; v <= s.Count(); v++ {
		if d := s.Domain(v); len(d) > 0 {
			all, known := c.domains[c.class[v]]
			if !known {
				all = d
			}
			c.domains[c.class[v]] = met(all, d)
		}
	}
	for v := 1; v <= s.Count(); v++ {
		d, isInt := c.domains[c.class[v]]
		n, _ := s.Node(v)
		if isInt && (len(d) == 0 || n.Kind == "rec" || n.Kind == "ref") {
			return false
		}
	}
	return true
}

// met returns the numbers that two lists of ranges both have; unlike domains they may be any.
func met(a, b [][2]int) (l [][2]int) {
	for _, p := range a {
		for _, q := range b {
			if low, high := max(p[0], q[0]), min(p[1], q[1]); low <= high {
				l = append(l, [2]int{low, high})
			}
		}
	}
	return l
}

// TestMostGeneral: Unify makes just those variables one that must be, and fails just if it must (P4, P8.6).
func TestMostGeneral(t *testing.T) {
	m := newMaker(802)
	fits, fails := 0, 0
	for range 4000 {
		s, _ := m.both(4 + m.Intn(9))
		for range m.Intn(4) {
			s.Unify(1+m.Intn(s.Count()), 1+m.Intn(s.Count()))
		}
		x, y := 1+m.Intn(s.Count()), 1+m.Intn(s.Count())
		c, ok := closed(s, x, y)
		was := told(s)
		if _, err := s.Unify(x, y); (err == api.OK) != ok {
			t.Fatalf("P8.2: %s: Unify(%d, %d): %d", was, x, y, err)
		}
		if !ok {
			fails++
			continue
		}
		fits++
		if s.Itself(x) != s.Itself(y) {
			t.Fatalf("P8.6: %s: behind Unify(%d, %d) not one: %s", was, x, y, told(s))
		}
		for v := 1; v <= s.Count(); v++ {
			for w := 1; w <= s.Count(); w++ {
				if (s.Itself(v) == s.Itself(w)) != (c.class[v] == c.class[w]) {
					t.Fatalf("P8.6: %s: Unify(%d, %d): %d and %d: %s", was, x, y, v, w, told(s))
				}
			}
			if fmt.Sprint(s.Domain(v)) != fmt.Sprint(c.domains[c.class[v]]) {
				t.Fatalf("P8.6: %s: Unify(%d, %d): Domain(%d): %v, not %v", was, x, y, v, s.Domain(v), c.domains[c.class[v]])
			}
		}
	}
	if fits < 500 || fails < 500 {
		t.Errorf("the test's stores: %d, %d", fits, fails)
	}
}

// whole returns one text of what all variables are, without the numbers of variables.
func whole(s *store.Store) string {
	all := api.Graph{Nodes: []api.Node{{Kind: "rec", Text: "all"}}}
	domains := ""
	count := s.Count()
	for x := 1; x <= count; x++ {
		all.Nodes[0].Feats = append(all.Nodes[0].Feats, api.Feat{N: x})
		all.Nodes[0].Kids = append(all.Nodes[0].Kids, x)
		all.Nodes = append(all.Nodes, api.Node{Kind: "var", N: x})
		domains += fmt.Sprint(s.Domain(x))
	}
	x, _ := s.Put(all)
	g, _ := s.Graph(x)
	g, _ = graph.Fresh(g)
	text, _ := graph.Text(g)
	return text + domains
}

// TestAnyOrder: the order of deeds, and of what is unified, does not matter for what variables are.
func TestAnyOrder(t *testing.T) {
	m := newMaker(803)
	fits, fails := 0, 0
	for range 3000 {
		s, _ := m.both(3 + m.Intn(8))
		var deeds []func(*store.Store, bool) api.Errno
		for range 1 + m.Intn(4) {
			x, y, values := 1+m.Intn(s.Count()), 1+m.Intn(s.Count()), m.values()
			d, _ := domain.Of(values)
			if m.Intn(4) == 0 {
				deeds = append(deeds, func(s *store.Store, _ bool) api.Errno { _, err := s.Tell(x, d); return err })
				continue
			}
			deeds = append(deeds, func(s *store.Store, turned bool) api.Errno {
				if turned {
					_, err := s.Unify(y, x)
					return err
				}
				_, err := s.Unify(x, y)
				return err
			})
		}
		do := func(turned bool) (string, bool) {
			c, failed := s.Copy(), false
			for _, deed := range deeds {
				failed = deed(c, turned) != api.OK || failed
			}
			return whole(c), failed
		}
		first, failed := do(false)
		if one, alsoFailed := do(true); one != first || alsoFailed != failed {
			t.Fatalf("P8.6: turned: %s; %s", first, one)
		}
		m.Shuffle(len(deeds), func(i, j int) { deeds[i], deeds[j] = deeds[j], deeds[i] })
		second, alsoFailed := do(m.Intn(2) == 0)
		if failed != alsoFailed || !failed && first != second {
			t.Fatalf("P8.6: in another order: %s, %t; %s, %t; %s", first, failed, second, alsoFailed, told(s))
		}
		if failed {
			fails++
		} else {
			fits++
		}
	}
	if fits < 300 || fails < 300 {
		t.Errorf("the test's stores: %d, %d", fits, fails)
	}
}

// TestUndoIsExact: Undo of Mark is what was; Copy and what is done in it change nothing.
func TestUndoIsExact(t *testing.T) {
	m := newMaker(804)
	for range 1500 {
		s, b := m.both(3 + m.Intn(6))
		var was []*store.Store
		for range 3 {
			was = append(was, s.Copy())
			if s.Mark() != len(was)-1 {
				t.Fatalf("P8.5: Mark")
			}
			m.some(s, b)
		}
		now, c := told(s), s.Copy()
		for k := range slices.Backward(was) {
			if m.Intn(3) == 0 {
				continue
			}
			if err := s.Undo(k); err != api.OK || !store.Same(s, was[k]) || told(s) != told(was[k]) {
				t.Fatalf("P8.7: Undo(%d): %d; %s, not %s", k, err, told(s), told(was[k]))
			}
			m.some(s, b)
			if err := s.Undo(k); err != api.OK || !store.Same(s, was[k]) {
				t.Fatalf("P8.7: Undo(%d) once more: %d; %s, not %s", k, err, told(s), told(was[k]))
			}
		}
		if told(c) != now {
			t.Fatalf("R7: a copy is changed: %s, not %s", told(c), now)
		}
		if err := c.Undo(0); err != api.OK || !store.Same(c, was[0]) {
			t.Fatalf("P8.5: a copy's marks: %d; %s, not %s", err, told(c), told(was[0]))
		}
	}
}

// some does some deeds in a store; what is in the book does not matter behind it.
func (m maker) some(s *store.Store, b *book) {
	for range m.Intn(6) {
		x, y := 1+m.Intn(s.Count()), 1+m.Intn(s.Count())
		switch m.Intn(4) {
		case 0:
			d, _ := domain.Of(m.values())
			s.Tell(x, d)
		case 1:
			m.grow(s, b)
		default:
			s.Unify(x, y)
		}
	}
}

// TestEntailedStays: what is entailed or refused stays so; what waits does so until it is touched.
func TestEntailedStays(t *testing.T) {
	m := newMaker(805)
	kinds := map[int]int{}
	for range 6000 {
		s, b := m.both(3 + m.Intn(8))
		x, y := 1+m.Intn(s.Count()), 1+m.Intn(s.Count())
		was, waits, _ := s.Entailed(x, y)
		kinds[was]++
		for _, w := range waits {
			if kind := s.Kind(w); s.Itself(w) != w || kind != "free" && kind != "ranged" {
				t.Fatalf("P8.4: it waits for %d: %s", w, told(s))
			}
		}
		before := told(s)
		touched, err := s.Unify(1+m.Intn(s.Count()), 1+m.Intn(s.Count()))
		isTouched := slices.ContainsFunc(waits, func(w int) bool { return slices.Contains(touched, w) })
		is, _, _ := s.Entailed(x, y)
		if was != -1 && is != was || was == -1 && !isTouched && is != -1 {
			t.Fatalf("P8.7: Entailed(%d, %d): %d, %v, then %d: %s; %d: %s", x, y, was, waits, is, before, err, told(s))
		}
		m.some(s, b)
		if is, _, _ := s.Entailed(x, y); was != -1 && is != was {
			t.Fatalf("P8.7: Entailed(%d, %d): %d, then %d: %s", x, y, was, is, told(s))
		}
		_, err = s.Unify(x, y)
		if is, _, _ := s.Entailed(x, y); (err == api.OK) != (is == 1) || (err == api.ErrFail) != (is == 0) {
			t.Fatalf("P8.7: Entailed(%d, %d) behind Unify: %d, %d", x, y, is, err)
		}
	}
	if min(kinds[-1], kinds[0], kinds[1]) < 200 {
		t.Errorf("the test's stores: %v", kinds)
	}
}

// TestAnyArguments: no call panics, whatever it is given.
func TestAnyArguments(t *testing.T) {
	m := newMaker(806)
	number := func() int {
		return pick(m, m.Intn(5), m.Intn(5), m.Intn(9)-2, api.MaxVars, math.MaxInt, math.MinInt)
	}
	for range 4000 {
		s, _ := m.both(3)
		for range 8 {
			g := m.graph(9)
			if m.Intn(3) == 0 {
				n := &g.Nodes[m.Intn(len(g.Nodes))]
				n.N, n.Kids, g.Root = number(), append(n.Kids, number()), number()
			}
			was := s.Copy()
			_, e1 := s.Put(g)
			if e1 != api.OK && !store.Same(s, was) {
				t.Fatalf("R3: Put(%v): %d", g, e1)
			}
			was = s.Copy()
			if touched, err := s.Unify(number(), number()); err != api.OK && (len(touched) > 0 || !store.Same(s, was)) {
				t.Fatalf("R3: Unify: %v, %d", touched, err)
			}
			was = s.Copy()
			if touched, err := s.Tell(number(), [][2]int{{number(), number()}, {number(), number()}}); err != api.OK && (len(touched) > 0 || !store.Same(s, was)) {
				t.Fatalf("R3: Tell: %v, %d", touched, err)
			}
			was = s.Copy()
			x := number()
			n, e2 := s.Node(x)
			is := x >= 1 && x <= s.Count()
			if (e2 == api.OK) != is || (n.Kind != "") != is || (s.Itself(x) != 0) != is || (s.Kind(x) != "") != is {
				t.Fatalf("P8.3: %d: %v, %d", x, n, e2)
			}
			s.Graph(number())
			s.Domain(number())
			s.Entailed(number(), number())
			if !store.Same(s, was) {
				t.Fatalf("P8.4: %s, not %s", told(s), told(was))
			}
			if m.Intn(3) == 0 {
				s.Mark()
			}
			s.Undo(number())
		}
	}
}

// TestCallsAreAlike: equal calls give equal results.
func TestCallsAreAlike(t *testing.T) {
	for seed := range int64(300) {
		run := func() string {
			m := newMaker(seed)
			s, b := m.both(6)
			m.some(s, b)
			is, waits, _ := s.Entailed(1, 2)
			touched, err := s.Unify(3, 4)
			return fmt.Sprint(is, waits, touched, err, told(s))
		}
		if first, second := run(), run(); first != second {
			t.Fatalf("R8: %s; %s", first, second)
		}
	}
}
