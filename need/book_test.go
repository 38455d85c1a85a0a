package need_test

import (
	"fmt"
	"math/rand"
	"slices"
	"testing"

	"manystrand/api"
	"manystrand/need"
	"manystrand/store"
)

// A book is a second reading of the chapter: it keeps what was said as it was said, and asks for all
// variables, each time anew, what the chapter's sentences make of it.
type book struct {
	s                         *store.Store
	told                      []int
	triggers, views, failures [][2]int
}

func isKnown(s *store.Store, x int) bool {
	n, err := s.Node(x)
	return err == api.OK && n.Kind != "var"
}

func areOne(s *store.Store, x, y int) bool { return s.Itself(x) == s.Itself(y) }

// needed returns for each variable whether it is needed: the least that the sentences allow.
func (b *book) needed() []bool {
	l := make([]bool, b.s.Count()+1)
	for again := true; again; {
		again = false
		for x := 1; x < len(l); x++ {
			is := isKnown(b.s, x) || slices.Contains(b.told, x)
			for y := 1; y < len(l); y++ {
				is = is || l[y] && (areOne(b.s, x, y) || slices.Contains(b.views, [2]int{x, y}))
			}
			again = again || is && !l[x]
			l[x] = l[x] || is
		}
	}
	return l
}

func (b *book) fire() (fired []int) {
	needed := b.needed()
	var left [][2]int
	for _, p := range b.triggers {
		if needed[p[0]] {
			fired = append(fired, p[1])
		} else {
			left = append(left, p)
		}
	}
	b.triggers = left
	return fired
}

func (b *book) by(x, id int) ([]int, api.Errno) {
	for _, p := range b.triggers {
		if p[1] == id {
			return nil, api.ErrTwice
		}
	}
	b.triggers = append(b.triggers, [2]int{x, id})
	return b.fire(), api.OK
}

func (b *book) need(x int) []int {
	b.told = append(b.told, x)
	return b.fire()
}

func (b *book) failed(x int) (with int, is bool) {
	for _, p := range b.failures {
		if areOne(b.s, p[0], x) {
			return p[1], true
		}
	}
	return 0, false
}

func (b *book) hasFailed(x int) bool {
	_, is := b.failed(x)
	return is
}

func (b *book) view(x int) (int, api.Errno) {
	if isKnown(b.s, x) {
		return b.s.Itself(x), api.OK
	}
	if b.hasFailed(x) {
		return 0, api.ErrRaise
	}
	y, err := b.s.Var()
	b.views = append(b.views, [2]int{x, y})
	return y, err
}

func (b *book) fail(x, with int) api.Errno {
	wrong := b.s.Kind(x) != "free" || b.hasFailed(x)
	for _, p := range b.views {
		wrong = wrong || areOne(b.s, p[0], x) || areOne(b.s, p[1], x)
	}
	if wrong {
		return api.ErrArg
	}
	b.failures = append(b.failures, [2]int{x, with})
	return api.OK
}

func (b *book) waits(x int) (int, api.Errno) {
	switch {
	case isKnown(b.s, x):
		return 0, api.OK
	case b.hasFailed(x):
		return 0, api.ErrRaise
	}
	return b.s.Itself(x), api.OK
}

// unify does what the chapter says in a copy of the store, which is the store if all goes well.
func (b *book) unify(x, y int) (touched, fired []int, err api.Errno) {
	if b.hasFailed(x) || b.hasFailed(y) {
		return nil, nil, api.ErrRaise
	}
	behind := b.s.Copy()
	if _, err := behind.Unify(x, y); err != api.OK {
		return nil, nil, err
	}
	switch {
	case b.tellsFailed(behind):
		return nil, nil, api.ErrRaise
	case b.blocks(behind):
		return nil, nil, api.ErrWait
	}
	for i := 0; i < len(b.views); i++ {
		p := b.views[i]
		if isKnown(behind, p[0]) && !areOne(behind, p[0], p[1]) {
			if _, err := behind.Unify(p[0], p[1]); err != api.OK {
				return nil, nil, err
			}
			i = -1 // from the first one again
		}
	}
	for x := 1; x <= b.s.Count(); x++ {
		if b.s.Itself(x) == x && differ(b.s, behind, x) {
			touched = append(touched, x)
		}
	}
	b.s = behind
	return touched, b.fire(), api.OK
}

// differ reports whether two stores tell otherwise what a variable is.
func differ(a, b *store.Store, x int) bool {
	return a.Itself(x) != b.Itself(x) || a.Kind(x) != b.Kind(x) || !slices.Equal(a.Domain(x), b.Domain(x))
}

// tellsFailed reports whether a store tells something of failed ones that the one ahead of it does not.
func (b *book) tellsFailed(behind *store.Store) bool {
	for _, p := range b.failures {
		f := p[0]
		if b.s.Kind(f) != behind.Kind(f) {
			return true
		}
		for x := 1; x <= b.s.Count(); x++ {
			if areOne(behind, x, f) && !areOne(b.s, x, f) {
				return true
			}
		}
	}
	return false
}

// blocks reports whether a unification that leaves the store so is blocked.
func (b *book) blocks(behind *store.Store) bool {
	for i, p := range b.views {
		x, y := p[0], p[1]
		isBlocked := behind.Kind(y) != "free" || areOne(behind, x, y)
		for k, q := range b.views {
			isBlocked = isBlocked || i != k && !isKnown(b.s, q[0]) && areOne(behind, y, q[1])
		}
		if isBlocked && !isKnown(b.s, x) {
			return true
		}
	}
	return false
}

// A maker makes random tables.
type maker struct{ *rand.Rand }

func newMaker(seed int64) maker { return maker{rand.New(rand.NewSource(seed))} }

func pick[T any](m maker, l ...T) T { return l[m.Intn(len(l))] }

func (m maker) variable(s *store.Store) int { return 1 + m.Intn(s.Count()) }

// part returns how one more variable is made, or some.
func (m maker) part(s *store.Store) string {
	switch n := s.Count(); {
	case n == 0:
		return "free"
	case m.Intn(3) == 0:
		return pick(m, "1", "2", "a", "in 1#2", "in 1#5", "<cell 1>")
	case m.Intn(2) == 0:
		return fmt.Sprintf("(_%d#_%d)", 1+m.Intn(n), 1+m.Intn(n))
	}
	return "free"
}

// table returns a table beside a store with a few variables.
func (m maker) table() *need.Table {
	s := store.New()
	grow(s, "free")
	grow(s, "free")
	for count := 3 + m.Intn(5); s.Count() < count; {
		grow(s, m.part(s))
	}
	tb, _ := need.New(s)
	return tb
}

// both returns a table and a book beside stores with the same variables.
func (m maker) both() (*need.Table, *book) {
	tb := m.table()
	return tb, &book{s: tb.Store().Copy()}
}

// deed does the same in a table and in a book, and returns what comes of it in both.
func (m maker) deed(t *testing.T, tb *need.Table, b *book) (call, got, want string) {
	x, y := m.variable(b.s), m.variable(b.s)
	switch n := m.Intn(16); {
	case n < 2:
		id := m.Intn(6)
		fired, err := b.by(x, id)
		call, want = fmt.Sprint("by ", x, " ", id), told(err, fired)
	case n == 2:
		call, want = fmt.Sprint("need ", x), told(api.OK, b.need(x))
	case n < 5 && b.s.Count() < 14:
		y, err := b.view(x)
		call, want = fmt.Sprint("view ", x), told(err, y)
	case n == 5:
		call, want = fmt.Sprint("fail ", x, " ", y), told(b.fail(x, y), "done")
	case n == 6 && b.s.Count() < 14:
		part := m.part(b.s)
		grow(b.s, part)
		call, want = "put "+part, "done"
	default:
		touched, fired, err := b.unify(x, y)
		call, want = fmt.Sprint("unify ", x, " ", y), told(err, touched, " ", fired)
	}
	return call, does(t, tb, call), want
}

func told(err api.Errno, rest ...any) string {
	if err != api.OK {
		return fmt.Sprint("error ", int(err))
	}
	return fmt.Sprint(rest...)
}

// differs returns what a table tells that a book tells otherwise.
func differs(tb *need.Table, b *book) string {
	if !store.Same(tb.Store(), b.s) {
		return "P10.2: another store"
	}
	if !slices.Equal(tb.Triggers(), b.triggers) {
		return fmt.Sprintf("P10.2: Triggers: %v, not %v", tb.Triggers(), b.triggers)
	}
	for x, needed := range b.needed() {
		with, is := tb.Failed(x)
		wantWith, wantIs := b.failed(x)
		on, err := tb.Waits(x)
		wantOn, wantErr := b.waits(x)
		switch {
		case tb.Needed(x) != needed:
			return fmt.Sprintf("P10.1: Needed(%d): not %v", x, needed)
		case x > 0 && (with != wantWith || is != wantIs):
			return fmt.Sprintf("P10.1: Failed(%d): %d, %v, not %d, %v", x, with, is, wantWith, wantIs)
		case x > 0 && (on != wantOn || err != wantErr):
			return fmt.Sprintf("P10.2: Waits(%d): %d, %d, not %d, %d", x, on, err, wantOn, wantErr)
		}
	}
	return ""
}
