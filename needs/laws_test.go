package needs_test

import (
	"maps"
	"math/rand"
	"regexp"
	"slices"
	"strings"
	"testing"

	"manystrand/api"
	"manystrand/kernel"
	"manystrand/needs"
)

// A maker makes random statements.
type maker struct{ *rand.Rand }

func (m maker) pick(texts ...string) string { return texts[m.Intn(len(texts))] }

func (m maker) variable() string { return m.pick("A", "B", "C", "D") }

func (m maker) variables(n int) []string {
	l := []string{"A", "B", "C", "D"}
	m.Shuffle(len(l), func(i, j int) { l[i], l[j] = l[j], l[i] })
	return l[:n]
}

func (m maker) statement(depth int) api.Stmt {
	if depth <= 1 {
		return m.alone()
	}
	kid := func() api.Stmt { return m.statement(depth - 1) }
	switch m.Intn(16) {
	case 0, 1, 2, 3:
		return m.sequence(depth)
	case 4, 5:
		return api.Stmt{Do: "local", Args: m.variables(1 + m.Intn(4)), Kids: []api.Stmt{m.sequence(depth)}}
	case 6, 7, 8, 9, 10:
		args := append([]string{m.variable()}, m.variables(m.Intn(3))...)
		return api.Stmt{Do: "proc", Args: args, Kids: []api.Stmt{kid()}}
	case 11:
		return api.Stmt{Do: "if", Args: m.variables(1), Kids: []api.Stmt{kid(), kid()}}
	case 12:
		return api.Stmt{Do: "case", Name: "a", Feats: []api.Feat{{N: 1}}, Args: m.variables(2), Kids: []api.Stmt{kid(), kid()}}
	case 13:
		return api.Stmt{Do: "thread", Kids: []api.Stmt{kid()}}
	case 14:
		return api.Stmt{Do: "try", Args: m.variables(1), Kids: []api.Stmt{kid(), kid()}}
	}
	return m.alone()
}

func (m maker) sequence(depth int) api.Stmt {
	s := api.Stmt{Do: "seq"}
	for len(s.Kids) < 2 || m.Intn(3) > 0 {
		if kid := m.statement(depth - 1); kid.Do != "seq" {
			s.Kids = append(s.Kids, kid)
		}
	}
	return s
}

// alone makes a statement without Kids.
func (m maker) alone() api.Stmt {
	v := m.variable
	switch m.Intn(16) {
	case 0:
		return api.Stmt{Do: "eq", Args: []string{v(), v()}}
	case 1:
		return api.Stmt{Do: "rec", Name: "a", Feats: []api.Feat{{N: 1}}, Args: []string{v(), v()}}
	case 2:
		return api.Stmt{Do: "op", Name: m.pick("byneed", "cell", "get", "view", "fail", "port"), Args: []string{v(), v()}}
	case 3, 4, 5:
		return api.Stmt{Do: "op", Name: m.pick("self", "need", "newname", "show"), Args: []string{"Z"}}
	case 6:
		return api.Stmt{Do: "raise", Args: []string{"Z"}}
	case 7:
		return api.Stmt{Do: "call", Args: []string{v(), v()}}
	}
	return api.Stmt{Do: "call", Args: []string{v()}}
}

// A line is a line of Print's text: the variables that stand in it, of procs without the parameters.
type line struct {
	text    string
	around  int // the line of the `proc` around; -1: none
	gives   string
	calls   string
	uses    []string
	isLocal bool
}

var variable = regexp.MustCompile(`\b[A-Z]\w*|\b_\d+`)

// linesOf reads the text of a statement by its indents.
func linesOf(text string) []line {
	var l []line
	type open struct{ indent, place int }
	var around []open
	for i, text := range strings.Split(text, "\n") {
		indent := len(text) - len(strings.TrimLeft(text, " "))
		for len(around) > 0 && indent <= around[len(around)-1].indent {
			around = around[:len(around)-1]
		}
		n := line{text: text[indent:], around: -1}
		if len(around) > 0 {
			n.around = around[len(around)-1].place
		}
		words := variable.FindAllString(n.text, -1)
		switch {
		case strings.HasPrefix(n.text, "local"):
			n.isLocal = true
		case strings.HasPrefix(n.text, "catch"):
		case strings.HasPrefix(n.text, "case"):
			n.uses = words[:1]
		case strings.Contains(n.text, " = proc {"):
			n.gives = words[0]
			around = append(around, open{indent, i})
		case strings.HasPrefix(n.text, "{"):
			n.calls, n.uses = words[0], words[1:]
		default:
			n.uses = words
		}
		l = append(l, n)
	}
	return l
}

// An answer is what the functions return of a statement.
type answer struct {
	needs          []int
	reached, known []string
	calls          [][2]string
}

// second answers by the text of a renamed statement, in which all variables are different.
func second(text string) answer {
	l := linesOf(text)
	locals := map[string]bool{}
	for _, n := range l {
		if n.isLocal {
			for _, v := range variable.FindAllString(n.text, -1) {
				locals[v] = true
			}
		}
	}
	reached := map[int]bool{-1: true}
	for again := true; again; {
		again = false
		for i, n := range l {
			if n.gives != "" && !reached[i] && reached[n.around] && (!locals[n.gives] || standsElsewhere(l, i, reached)) {
				reached[i], again = true, true
			}
		}
	}
	return answer{layersIn(l, reached), reachedIn(l, reached), knownIn(l, locals), callsIn(l, locals)}
}

// standsElsewhere tells whether the X of the proc in a line stands in a reached part at another place.
func standsElsewhere(l []line, at int, reached map[int]bool) bool {
	x := l[at].gives
	return slices.ContainsFunc(l, func(n line) bool {
		return reached[n.around] && (n.calls == x || slices.Contains(n.uses, x))
	}) || slices.ContainsFunc(slices.Concat(l[:at], l[at+1:]), func(n line) bool {
		return reached[n.around] && n.gives == x
	})
}

func layersIn(l []line, reached map[int]bool) []int {
	found := map[int]bool{0: true}
	for _, n := range l {
		if !reached[n.around] {
			continue
		}
		for begin, layer := range map[string]int{"thread": 1, "op byneed": 2, "op need": 2, "try": 3, "raise": 3, "op newname": 4, "op view": 4, "op port": 5, "op cell": 6, "op get": 6, "op self": 6, "choice": 7, "op fail": 8} {
			if n.text == begin || strings.HasPrefix(n.text, begin+" ") {
				found[layer] = true
			}
		}
	}
	return slices.Sorted(maps.Keys(found))
}

func reachedIn(l []line, reached map[int]bool) []string {
	var names []string
	for i, n := range l {
		if n.gives != "" && reached[i] && !slices.Contains(names, n.gives) {
			names = append(names, n.gives)
		}
	}
	return names
}

func knownIn(l []line, locals map[string]bool) []string {
	var names []string
	for _, n := range l {
		if n.gives == "" || !locals[n.gives] {
			continue
		}
		procs, uses := 0, 0
		for _, o := range l {
			if o.gives == n.gives {
				procs++
			}
			if slices.Contains(o.uses, n.gives) {
				uses++
			}
		}
		if procs == 1 && uses == 0 {
			names = append(names, n.gives)
		}
	}
	return names
}

func callsIn(l []line, locals map[string]bool) [][2]string {
	known := knownIn(l, locals)
	var pairs [][2]string
	for i := -1; i < len(l); i++ {
		caller := ""
		if i >= 0 {
			if caller = l[i].gives; caller == "" {
				continue
			}
		}
		for _, called := range known {
			pair := [2]string{caller, called}
			if slices.ContainsFunc(l, func(n line) bool { return n.around == i && n.calls == called }) && !slices.Contains(pairs, pair) {
				pairs = append(pairs, pair)
			}
		}
	}
	return pairs
}

// first answers by the package.
func first(t *testing.T, s api.Stmt) answer {
	t.Helper()
	var a answer
	var errs [4]api.Errno
	a.needs, errs[0] = needs.Needs(s)
	a.reached, errs[1] = needs.Reached(s)
	a.known, errs[2] = needs.Known(s)
	a.calls, errs[3] = needs.Calls(s)
	if errs != [4]api.Errno{} {
		t.Fatalf("P4.1, P4.2: errors %v", errs)
	}
	return a
}

func (a answer) isSame(b answer) bool {
	return slices.Equal(a.needs, b.needs) && slices.Equal(a.reached, b.reached) && slices.Equal(a.known, b.known) && slices.Equal(a.calls, b.calls)
}

// TestSecondReading: random statements, and their texts read by lines.
func TestSecondReading(t *testing.T) {
	m := maker{rand.New(rand.NewSource(41))}
	var reached, known, calls int
	for range 4000 {
		s := m.statement(2 + m.Intn(6))
		r, err := kernel.Rename(s)
		if err != api.OK {
			continue
		}
		text, _ := kernel.Print(r)
		want, got := second(text), first(t, s)
		if !got.isSame(want) {
			t.Fatalf("P4.1, P4.2: %v; want %v, of\n%s", got, want, text)
		}
		reached, known, calls = reached+len(got.reached), known+len(got.known), calls+len(got.calls)
	}
	if min(reached, known, calls) < 500 {
		t.Errorf("too few: %d reached, %d known, %d calls", reached, known, calls)
	}
}

// TestNames: names of bound variables change nothing; equal calls choose alike; arguments stay.
func TestNames(t *testing.T) {
	m := maker{rand.New(rand.NewSource(42))}
	for range 500 {
		s := m.statement(2 + m.Intn(5))
		r, err := kernel.Rename(s)
		if err != api.OK {
			continue
		}
		before, _ := kernel.Print(s)
		l, _ := needs.Needs(s)
		if again, _ := needs.Needs(r); !slices.Equal(l, again) {
			t.Errorf("P4.1: Needs, renamed: %v; want %v", again, l)
		}
		if a := first(t, s); !a.isSame(first(t, s)) {
			t.Errorf("P4.2: two answers to\n%s", before)
		}
		if after, _ := kernel.Print(s); after != before {
			t.Errorf("P4.1, P4.2: changed\n%s\nto\n%s", before, after)
		}
	}
}

// parts hands over all statements of a statement that stand where the program itself is, not in its
// procedures.
func parts(s api.Stmt, yield func(api.Stmt)) {
	yield(s)
	if s.Do != "proc" {
		for _, kid := range s.Kids {
			parts(kid, yield)
		}
	}
}

func isWithin(t *testing.T, part, whole api.Stmt) bool {
	t.Helper()
	l, err := needs.Needs(part)
	m, errOfWhole := needs.Needs(whole)
	if err != api.OK || errOfWhole != api.OK {
		t.Fatalf("P4.1: errors %d, %d", err, errOfWhole)
	}
	return !slices.ContainsFunc(l, func(layer int) bool { return !slices.Contains(m, layer) })
}

// TestParts: parts need no more than the whole; what comes behind takes no layer away.
func TestParts(t *testing.T) {
	m := maker{rand.New(rand.NewSource(43))}
	closed := 0
	for range 4000 {
		s := m.sequence(3 + m.Intn(5))
		parts(s, func(part api.Stmt) {
			// What is free in a part may be a local variable of the whole, that nothing calls.
			if len(kernel.Free(part)) == 0 && part.Do != "skip" {
				closed++
				if !isWithin(t, part, s) {
					t.Errorf("P4.4: a part of %v needs more: %v", s, part)
				}
			}
		})
		more := m.statement(2 + m.Intn(3))
		if both := (api.Stmt{Do: "seq", Kids: slices.Concat(flat(s), flat(more))}); !isWithin(t, s, both) {
			t.Errorf("P4.4: %v takes a layer away from %v", more, s)
		}
	}
	if closed < 500 {
		t.Errorf("too few closed parts: %d", closed)
	}
}

func flat(s api.Stmt) []api.Stmt {
	if s.Do == "seq" {
		return s.Kids
	}
	return []api.Stmt{s}
}

// TestReachedParts: what stands in a procedure is a part of the whole as soon as it is called.
func TestReachedParts(t *testing.T) {
	m := maker{rand.New(rand.NewSource(44))}
	for range 500 {
		body := api.Stmt{Do: "local", Args: []string{"A", "B", "C", "D"}, Kids: []api.Stmt{m.statement(2 + m.Intn(4))}}
		f := api.Stmt{Do: "proc", Args: []string{"F"}, Kids: []api.Stmt{body}}
		g := api.Stmt{Do: "proc", Args: []string{"G"}, Kids: []api.Stmt{{Do: "call", Args: []string{"F"}}}}
		program := func(l ...api.Stmt) api.Stmt {
			return api.Stmt{Do: "local", Args: []string{"F", "G"}, Kids: []api.Stmt{{Do: "seq", Kids: l}}}
		}
		if l, _ := needs.Needs(program(f, g)); !slices.Equal(l, []int{0}) {
			t.Errorf("P4.1: Needs where nothing reaches: %v", l)
		}
		whole := program(f, g, api.Stmt{Do: "call", Args: []string{"G"}})
		if !isWithin(t, body, whole) || !isWithin(t, whole, body) {
			t.Errorf("P4.4: a body that is reached needs other layers than the whole: %v", body)
		}
	}
}

// TestMemory: results are new memory.
func TestMemory(t *testing.T) {
	s := load(t, "local F in proc {F} raise F end end {F} thread {Newname _} end end")
	want := first(t, s)
	got := first(t, s)
	for _, l := range [][]string{got.reached, got.known} {
		for i := range l {
			l[i] = "?"
		}
	}
	for i := range got.needs {
		got.needs[i] = -1
	}
	for i := range got.calls {
		got.calls[i] = [2]string{}
	}
	if again := first(t, s); !again.isSame(want) {
		t.Errorf("P4.1, P4.2: %v; want %v", again, want)
	}
}
