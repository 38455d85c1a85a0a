package kernel_test

import (
	"fmt"
	"maps"
	"math/rand"
	"regexp"
	"slices"
	"strconv"
	"strings"
	"testing"

	"manystrand/api"
	"manystrand/kernel"
	"manystrand/tree"
)

// A maker makes random sources and statements.
type maker struct{ *rand.Rand }

func (m maker) pick(texts ...string) string { return texts[m.Intn(len(texts))] }

func (m maker) variable() string { return m.pick("X", "Y", "Z", "Show", "Cell", "Det") }

// shapes are sources of phrases: %E stands for a phrase in brackets, %B for a body, %V for a
// variable, %A for arms.
var shapes = []string{
	"%E = %E", "%E = %E", "%V = %E", "{%E %E}", "{%V %E}", "{Show %E}", "{Cell %E %E}", "{Cell %E}", "{Newname}", "%E := %E",
	"a(%E f:%E)", "b(2:%E)", "[%E %E]", "[%E]", "%E|%E", "%E#%E", "%E#%E#%E", "%E.%E", "~%E", "@%E", "!!%E",
	"%E + %E", "%E =< %E", "%E mod %E", "%E andthen %E", "%E orelse %E", "%E == %E", "(%B)",
	"local %V in %B end", "local X Show in %B end", "proc {%V X Y} %B end", "proc {$ Det} %B end", "fun {%V} %B end", "fun {$ X Show} %B end", "fun lazy {%V Cell} %B end", "fun lazy {$} %B end",
	"if %E then %B end", "if %E then %B else %B end", "case %E of %A end", "case %E of %A else %B end", "case %V of %A end", "case %V of %A else %B end",
	"thread %B end", "raise %E end", "try %B catch %V then %B end", "for %V in %E at %E do %B end", "for each %V in %E do %B end", "[%E for %V in %E]", "[%E for %V in %E if %E]",
	"lock %E then %B end", "choice %B end", "choice %B [] %B [] %B end",
}

func (m maker) source(depth int) string {
	if depth <= 1 || m.Intn(8) == 0 {
		return m.pick(m.variable(), m.variable(), m.variable(), "_", "skip", "5", "~1", "a", "'a b'", `""`, `"ab"`, "{P}")
	}
	text := shapes[m.Intn(len(shapes))]
	for {
		ahead, behind, found := strings.Cut(text, "%")
		if !found {
			return text
		}
		text = ahead + m.part(behind[0], depth-1) + behind[1:]
	}
}

func (m maker) part(kind byte, depth int) string {
	switch kind {
	case 'E':
		return "(" + m.source(depth) + ")"
	case 'B':
		text := "(" + m.source(depth) + ")"
		for range m.Intn(3) {
			text += " (" + m.source(depth) + ")"
		}
		return text
	case 'V':
		return m.variable()
	}
	var arms []string
	for range 1 + m.Intn(3) {
		vars := []string{"X", "Y", "Z", "Show", "Cell"}
		m.Shuffle(len(vars), func(i, j int) { vars[i], vars[j] = vars[j], vars[i] })
		arms = append(arms, m.pattern(3, &vars)+" then "+m.part('B', depth))
	}
	return strings.Join(arms, " [] ")
}

// pattern takes its variables from a list of different ones.
func (m maker) pattern(depth int, vars *[]string) string {
	kind := m.Intn(10)
	if depth <= 1 {
		kind %= 4
	}
	part := func() string { return "(" + m.pattern(depth-1, vars) + ")" }
	switch kind {
	case 0, 1:
		if len(*vars) > 0 {
			v := (*vars)[0]
			*vars = (*vars)[1:]
			return v
		}
		return "_"
	case 2:
		return m.pick("_", "5", "~5")
	case 3:
		return m.pick("a", "nil", "'b c'", "a(...)")
	case 4:
		return "a(" + part() + " f:" + part() + ")"
	case 5:
		return "b(2:" + part() + " ...)"
	case 6:
		return "[" + part() + "]"
	case 7:
		return "[" + part() + " " + part() + "]"
	case 8:
		return part() + "|" + part()
	}
	return part() + "#" + part()
}

func (m maker) loaded(t *testing.T) (text string, p api.Tree, s api.Stmt) {
	for {
		text = m.source(2 + m.Intn(3))
		p, _ = tree.Parse(text)
		if s, err := kernel.Translate(p); err == api.OK {
			return text, p, s
		} else if err != api.ErrLimit {
			t.Fatalf("P3.1: Load(%q): %d", text, err)
		}
	}
}

// slicesOf returns the memory of all lists of a statement.
func slicesOf(s api.Stmt, seen map[any]int) {
	if cap(s.Args) > 0 {
		seen[&s.Args[:1][0]]++
	}
	if cap(s.Feats) > 0 {
		seen[&s.Feats[:1][0]]++
	}
	if cap(s.Kids) > 0 {
		seen[&s.Kids[:1][0]]++
	}
	for _, kid := range s.Kids {
		slicesOf(kid, seen)
	}
}

func checkApart(t *testing.T, l ...api.Stmt) {
	t.Helper()
	seen := map[any]int{}
	for _, s := range l {
		slicesOf(s, seen)
	}
	for _, count := range seen {
		if count > 1 {
			t.Fatalf("R4: lists that share memory in %v", l)
		}
	}
}

func TestLawsOfTranslate(t *testing.T) {
	m := maker{rand.New(rand.NewSource(2))}
	for range 2500 {
		text, p, s := m.loaded(t)
		if !kernel.Valid(s) {
			t.Fatalf("P3.5: Load(%q) is not valid: %v", text, s)
		}
		vars := tree.Vars(p)
		for _, name := range kernel.Free(s) {
			if !slices.Contains(vars, name) {
				t.Fatalf("P3.5: Load(%q): %s is free", text, name)
			}
		}
		printed, _ := tree.Print(p)
		inLines, _ := tree.Lines(p)
		for _, other := range []string{printed, "((" + text + "))", strings.Join(inLines, "\n\t% X\n")} {
			if again, err := kernel.Load(other); err != api.OK || !kernel.Same(again, s) {
				t.Fatalf("P3.5: Load(%q), but Load(%q): %d, %v", text, other, err, again)
			}
		}
		again, _ := kernel.Load(text)
		checkApart(t, s, again)
		checkStatement(t, s)
	}
}

// checkStatement holds the laws of printing and renaming against a valid statement without new
// variables that are free.
func checkStatement(t *testing.T, s api.Stmt) {
	t.Helper()
	printed, err := kernel.Print(s)
	parsed, err2 := kernel.Parse(printed)
	if err != api.OK || err2 != api.OK || !kernel.Same(parsed, s) {
		t.Fatalf("P3.5: Parse of Print: %v, %q, %v", s, printed, parsed)
	}
	r, err := kernel.Rename(s)
	twice, err2 := kernel.Rename(r)
	if err != api.OK || err2 != api.OK || !kernel.Same(twice, r) || !kernel.Alike(r, s) || !slices.Equal(kernel.Free(r), kernel.Free(s)) {
		t.Fatalf("P3.4: Rename(%v): %v, then %v", s, r, twice)
	}
	checkOrder(t, r)
	checkApart(t, s, parsed, r)
}

var binding = regexp.MustCompile(`(?m)^ *(?:local (.*) in|\S+ = proc \{(.*)\}|case \S+ of (.*) then|catch (.*) then)$`)

var anyName = regexp.MustCompile(`_[0-9]+|[A-Z]\w*`)

// checkOrder looks for what is bound in the text of a renamed statement. (No feature has a capital
// letter, or a `_`.)
func checkOrder(t *testing.T, s api.Stmt) {
	t.Helper()
	text, _ := kernel.Print(s)
	count := 0
	for _, found := range binding.FindAllStringSubmatch(text, -1) {
		for _, name := range anyName.FindAllString(strings.Join(found[1:], " "), -1) {
			count++
			if name != "_"+strconv.Itoa(count) {
				t.Fatalf("P3.4: Rename: %s has the place %d in\n%s", name, count, text)
			}
		}
	}
}

func (m maker) names(n int, l ...string) []string {
	m.Shuffle(len(l), func(i, j int) { l[i], l[j] = l[j], l[i] })
	return l[:n]
}

// statement makes a statement of few variables, so that they are bound anew and again.
func (m maker) statement(depth int) api.Stmt {
	name := func() string { return m.pick("X", "Y", "_1", "_2", "_12") }
	different := func(n int) []string { return m.names(n, "X", "Y", "_1", "_2", "_12") }
	kid := func() api.Stmt { return m.statement(depth - 1) }
	kind := m.Intn(16)
	if depth <= 1 {
		kind %= 8
	}
	feats := [][]api.Feat{nil, {n(1)}, {f("")}, {n(2), f("a b")}}[m.Intn(4)]
	s := api.Stmt{}
	switch kind {
	case 0:
		s.Do = "skip"
	case 1:
		s.Do, s.Args = "eq", []string{name(), name()}
	case 2:
		s.Do, s.Args, s.N = "int", []string{name()}, m.Intn(3)-1
	case 3:
		s.Do, s.Name, s.Feats, s.Args = "rec", m.pick("", "a", "if", "\n", "|"), feats, []string{name(), name(), name()}[:1+len(feats)]
	case 4, 5:
		s.Do, s.Args = "call", []string{name(), name(), name()}[:1+m.Intn(3)]
	case 6:
		s.Do, s.Name, s.Args = "op", m.pick("+", "\\=", "div", "dot"), []string{name(), name(), name()}
	case 7:
		s.Do, s.Args = "raise", []string{name()}
	case 8, 9:
		s.Do, s.Args, s.Kids = "local", different(1+m.Intn(3)), []api.Stmt{kid()}
	case 10:
		s.Do, s.Args, s.Kids = "proc", append([]string{name()}, different(m.Intn(3))...), []api.Stmt{kid()}
	case 11:
		s.Do, s.Args, s.Feats, s.Kids, s.N, s.Name = "case", different(1+len(feats)), feats, []api.Stmt{kid(), kid()}, m.Intn(2), m.pick("", "a", "then")
		if m.Intn(3) == 0 {
			s.N, s.Name = 2, ""
		}
	case 12:
		s.Do, s.Args, s.Kids = "try", []string{name()}, []api.Stmt{kid(), kid()}
	case 13:
		s.Do, s.Args, s.Kids = m.pick("if", "number"), []string{name()}, []api.Stmt{kid(), kid()}
	case 14:
		s.Do, s.Kids = m.pick("thread", "choice"), []api.Stmt{kid()}
	default:
		s.Do = m.pick("choice", "seq", "seq")
		for range 2 + m.Intn(2) {
			if more := kid(); s.Do == "seq" && more.Do == "seq" {
				s.Kids = append(s.Kids, more.Kids...)
			} else {
				s.Kids = append(s.Kids, more)
			}
		}
	}
	return s
}

// changed gives variables that a statement binds other names, where they are bound and where they
// stand below; in some places it changes more, or less.
func (m maker) changed(s api.Stmt, names map[string]string) api.Stmt {
	bound, within := len(s.Args), 0
	switch s.Do {
	case "local":
		bound = 0
	case "proc", "case":
		bound = 1
	case "try":
		bound, within = 0, 1
	}
	below := maps.Clone(names)
	s.Args = slices.Clone(s.Args)
	for i, name := range s.Args {
		if again, found := names[name]; i < bound && found && m.Intn(30) > 0 {
			s.Args[i] = again
		}
	}
	pool := m.names(5, "X", "Y", "Z", "_1", "_2")
	for i := bound; i < len(s.Args); i++ {
		below[s.Args[i]] = pool[i]
		s.Args[i] = pool[i]
	}
	s.Kids = slices.Clone(s.Kids)
	for i, kid := range s.Kids {
		if i == within {
			s.Kids[i] = m.changed(kid, below)
		} else {
			s.Kids[i] = m.changed(kid, names)
		}
	}
	return s
}

// alike holds if two valid statements are the same but for the names of bound variables: both sides
// have, for each bound variable, the place where it is bound.
func alike(a, b api.Stmt, inA, inB map[string]int, depth int) bool {
	if a.Do != b.Do || a.Name != b.Name || a.N != b.N || !slices.Equal(a.Feats, b.Feats) || len(a.Args) != len(b.Args) || len(a.Kids) != len(b.Kids) {
		return false
	}
	uses, within := len(a.Args), 0
	switch a.Do {
	case "local", "try":
		uses = 0
	case "proc", "case":
		uses = 1
	}
	if a.Do == "try" {
		within = 1
	}
	for i := range uses {
		x, boundX := inA[a.Args[i]]
		y, boundY := inB[b.Args[i]]
		if boundX != boundY || boundX && x != y || !boundX && a.Args[i] != b.Args[i] {
			return false
		}
	}
	belowA, belowB := maps.Clone(inA), maps.Clone(inB)
	for i := uses; i < len(a.Args); i++ {
		belowA[a.Args[i]], belowB[b.Args[i]] = 100*depth+i, 100*depth+i
	}
	for i := range a.Kids {
		below := alike(a.Kids[i], b.Kids[i], inA, inB, depth+1)
		if i == within {
			below = alike(a.Kids[i], b.Kids[i], belowA, belowB, depth+1)
		}
		if !below {
			return false
		}
	}
	return true
}

func hasFreeNew(s api.Stmt) bool {
	return slices.ContainsFunc(kernel.Free(s), func(name string) bool { return name[0] == '_' })
}

func TestLawsOfAlike(t *testing.T) {
	m := maker{rand.New(rand.NewSource(3))}
	counts := map[string]int{}
	for range 40000 {
		a := m.statement(2 + m.Intn(4))
		b := m.changed(a, map[string]string{})
		if !kernel.Valid(a) {
			t.Fatalf("P3.2: not valid: %v", a)
		}
		if !kernel.Valid(b) {
			continue
		}
		want := alike(a, b, map[string]int{}, map[string]int{}, 1)
		counts[fmt.Sprint(want)]++
		if kernel.Alike(a, b) != want || kernel.Alike(b, a) != want {
			t.Fatalf("P3.2: Alike: %t, of\n%v\n%v", !want, a, b)
		}
		x, err := kernel.Rename(a)
		y, err2 := kernel.Rename(b)
		if (err == api.ErrForm) != hasFreeNew(a) || (err2 == api.ErrForm) != hasFreeNew(b) {
			t.Fatalf("P3.4: Rename: %d, %d, of\n%v\n%v", err, err2, a, b)
		}
		if err == api.OK && err2 == api.OK {
			counts["renamed"]++
			if kernel.Same(x, y) != want {
				t.Fatalf("P3.5: Rename of\n%v\n%v is\n%v\n%v", a, b, x, y)
			}
		}
		text, _ := kernel.Print(a)
		if again, err := kernel.Parse(text); err != api.OK || !kernel.Same(again, a) {
			t.Fatalf("P3.5: Parse(%q): %v, %d", text, again, err)
		}
		if err == api.OK {
			checkStatement(t, a)
		}
	}
	if counts["true"] < 2000 || counts["false"] < 2000 || counts["renamed"] < 2000 {
		t.Fatalf("too few of a kind: %v", counts)
	}
}

// TestChangedTexts: what Parse takes is what Print made, whatever bytes a text has.
func TestChangedTexts(t *testing.T) {
	m := maker{rand.New(rand.NewSource(4))}
	pieces := []string{" ", "  ", "\n", "X", "_", "1", "~", "'", "{", "}", "(", ")", ":", "...", "end", "else", "skip", "[]", "catch", "op", "=", "\x00", "then\n"}
	read := 0
	for range 40000 {
		text, _ := kernel.Print(m.statement(1 + m.Intn(3)))
		at := m.Intn(len(text) + 1)
		end := min(len(text), at+m.Intn(3))
		text = text[:at] + m.pick("", pieces[m.Intn(len(pieces))]) + text[end:]
		s, err := kernel.Parse(text)
		again, err2 := kernel.Print(s)
		switch {
		case err == api.OK && (err2 != api.OK || again != text):
			t.Fatalf("P3.3: Parse(%q): %v, which is %q", text, s, again)
		case err == api.OK:
			read++
		case err != api.ErrForm || !kernel.Same(s, api.Stmt{}):
			t.Fatalf("P3.3: Parse(%q): %v, %d", text, s, err)
		}
	}
	if read < 2000 {
		t.Fatalf("too few texts were read: %d", read)
	}
}
