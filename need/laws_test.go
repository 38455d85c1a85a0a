package need_test

import (
	"fmt"
	"slices"
	"strings"
	"testing"

	"manystrand/api"
	"manystrand/need"
	"manystrand/store"
)

// TestByTheBook: a table does and tells what the second reading does and tells.
func TestByTheBook(t *testing.T) {
	m := newMaker(1001)
	seen := map[string]int{}
	for range 6000 {
		tb, b := m.both()
		var calls []string
		for range 20 {
			call, got, want := m.deed(t, tb, b)
			calls = append(calls, call)
			wrong := differs(tb, b)
			if got != want || wrong != "" {
				t.Fatalf("P10.2: %s: %s, not %s; %s", strings.Join(calls, "; "), got, want, wrong)
			}
			word, _, _ := strings.Cut(call, " ")
			if strings.HasPrefix(got, "error") {
				seen[word+" "+got]++
			}
			seen[word]++
		}
	}
	for _, what := range []string{"by", "by error 8", "need", "view", "view error 101", "fail", "fail error 2", "unify", "unify error 60", "unify error 101", "unify error 100"} {
		if seen[what] < 300 {
			t.Errorf("only %d times: %s", seen[what], what)
		}
	}
}

// class returns what a variable is, and which ones are one with it.
func class(s *store.Store, x int) string {
	l := []string{s.Kind(x)}
	for y := 1; y <= s.Count(); y++ {
		if areOne(s, x, y) {
			l = append(l, fmt.Sprint(y))
		}
	}
	return strings.Join(l, " ")
}

// TestViews: a view is determined with its variable, and then alike, and not ahead of it.
func TestViews(t *testing.T) {
	m := newMaker(1002)
	shown, cycles := 0, 0
	for range 3000 {
		tb := m.table()
		s := tb.Store()
		shows := map[int]int{}
		for range 25 {
			x, y := m.variable(s), m.variable(s)
			if m.Intn(6) > 0 {
				tb.Unify(x, y)
			} else if y, err := tb.View(x); err == api.OK && !isKnown(s, x) {
				shows[y] = x
			}
			for y, x := range shows {
				if isKnown(s, x) && !areOne(s, x, y) || !isKnown(s, x) && s.Kind(y) != "free" {
					t.Fatalf("P10.3: %d (%s) shows %d (%s)", y, s.Kind(y), x, s.Kind(x))
				}
			}
		}
		for y, x := range shows {
			if isKnown(s, x) {
				shown++
			}
			if isInCycle(s, shows, y) {
				cycles++
			}
		}
	}
	if shown < 1000 || cycles < 100 {
		t.Errorf("only %d, %d", shown, cycles)
	}
}

// isInCycle reports whether a view shows itself, over others.
func isInCycle(s *store.Store, shows map[int]int, y int) bool {
	x := y
	for range len(shows) {
		next := 0
		for y, shown := range shows {
			if areOne(s, y, x) && s.Kind(x) == "free" {
				next = shown
			}
		}
		if next == 0 {
			return false
		}
		if x = next; areOne(s, x, y) {
			return true
		}
	}
	return false
}

// TestFailures: one that has failed stays free, and no other one is one with it.
func TestFailures(t *testing.T) {
	m := newMaker(1003)
	failed, raised := 0, 0
	for range 6000 {
		tb := m.table()
		s := tb.Store()
		was := map[int]string{}
		for range 25 {
			x, y := m.variable(s), m.variable(s)
			if m.Intn(10) == 0 && tb.Fail(x, y) == api.OK {
				was[x] = class(s, x)
				failed++
			} else if _, _, err := tb.Unify(x, y); err == api.ErrRaise && !hasFailed(tb, x) && !hasFailed(tb, y) {
				raised++
			}
			for x := range was {
				if class(s, x) != was[x] || !hasFailed(tb, x) {
					t.Fatalf("P10.2: %d has failed: %s, not %s", x, class(s, x), was[x])
				}
			}
		}
	}
	if failed < 1000 || raised < 300 {
		t.Errorf("only %d, %d", failed, raised)
	}
}

func hasFailed(tb *need.Table, x int) bool {
	_, is := tb.Failed(x)
	return is
}

// TestFiresOnce: a trigger fires once at most, when its variable is needed and at no other time, and of
// several the one that came first.
func TestFiresOnce(t *testing.T) {
	m := newMaker(1004)
	fires, together := 0, 0
	for range 3000 {
		tb := m.table()
		of := map[int]int{} // the variables of the triggers that have not fired
		for id := range 8 {
			x := m.variable(tb.Store())
			fired, _ := tb.By(x, id)
			if is := tb.Needed(x); is != slices.Equal(fired, []int{id}) {
				t.Fatalf("P10.3: By of one that is needed (%v): %v", is, fired)
			}
			if len(fired) == 0 {
				of[id] = x
			}
		}
		for range 12 {
			fired := m.firing(tb)
			if !slices.IsSorted(fired) {
				t.Fatalf("P10.3: %v came in another order", fired)
			}
			for id, x := range of {
				if slices.Contains(fired, id) != tb.Needed(x) {
					t.Fatalf("P10.3: %d of %d, which is needed (%v): %v", id, x, tb.Needed(x), fired)
				}
			}
			for _, id := range fired {
				if _, is := of[id]; !is {
					t.Fatalf("P10.3: %d fires twice", id)
				}
				delete(of, id)
			}
			fires += len(fired)
			together += max(0, len(fired)-1)
		}
	}
	if fires < 2000 || together < 500 {
		t.Errorf("only %d, %d", fires, together)
	}
}

// firing does something that may let triggers fire, and returns which ones did.
func (m maker) firing(tb *need.Table) (fired []int) {
	x, y := m.variable(tb.Store()), m.variable(tb.Store())
	switch m.Intn(6) {
	case 0:
		fired, _ = tb.Need(x)
	case 1:
		tb.View(x)
	default:
		_, fired, _ = tb.Unify(x, y)
	}
	return fired
}

// TestSymmetric: Unify of x, y is Unify of y, x (P4).
func TestSymmetric(t *testing.T) {
	m := newMaker(1005)
	for range 3000 {
		tb, b := m.both()
		for range 8 {
			m.deed(t, tb, b)
		}
		x, y := m.variable(tb.Store()), m.variable(tb.Store())
		other := tb.Copy()
		p := does(t, tb, fmt.Sprint("unify ", x, " ", y))
		q := does(t, other, fmt.Sprint("unify ", y, " ", x))
		if p != q || !need.Same(tb, other) {
			t.Fatalf("P4: %d and %d: %s, %s", x, y, p, q)
		}
	}
}

// TestOrder: the triggers that fire do not depend on the order of unifications, when all are done; those
// that are blocked are tried again until nothing more comes of it.
func TestOrder(t *testing.T) {
	m := newMaker(1006)
	compared, fires, waited := 0, 0, 0
	for range 10000 {
		tb, b := m.both()
		for range 5 {
			m.deed(t, tb, b)
		}
		for id := range 5 {
			tb.By(m.variable(tb.Store()), 100+id)
		}
		var pairs [][2]int
		for range 2 + m.Intn(4) {
			pairs = append(pairs, [2]int{m.variable(tb.Store()), m.variable(tb.Store())})
		}
		other := tb.Copy()
		fired, blocked, done := all(tb, pairs)
		m.Shuffle(len(pairs), func(i, k int) { pairs[i], pairs[k] = pairs[k], pairs[i] })
		otherFired, _, otherDone := all(other, pairs)
		if !done || !otherDone {
			continue
		}
		if !slices.Equal(fired, otherFired) {
			t.Fatalf("P10.3: %v, in another order %v: %v", fired, otherFired, pairs)
		}
		for x := 1; x <= tb.Store().Count(); x++ {
			if tb.Needed(x) != other.Needed(x) {
				t.Fatalf("P10.3: in another order %d is needed: %v", x, other.Needed(x))
			}
		}
		compared++
		fires += len(fired)
		waited += blocked
	}
	if compared < 1500 || fires < 1500 || waited < 100 {
		t.Errorf("only %d, %d, %d", compared, fires, waited)
	}
}

// all does unifications as long as one more can be done: it returns what fired, ascending, how often one
// was blocked, and whether all are done.
func all(tb *need.Table, pairs [][2]int) (fired []int, blocked int, done bool) {
	for again := true; again; {
		again = false
		var left [][2]int
		for _, p := range pairs {
			_, more, err := tb.Unify(p[0], p[1])
			switch err {
			case api.OK:
				again = true
				fired = append(fired, more...)
			case api.ErrWait:
				blocked++
				left = append(left, p)
			default:
				return nil, 0, false
			}
		}
		pairs = left
	}
	slices.Sort(fired)
	return fired, blocked, len(pairs) == 0
}
