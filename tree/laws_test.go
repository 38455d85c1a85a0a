package tree_test

import (
	"math/rand"
	"slices"
	"strconv"
	"strings"
	"testing"

	"manystrand/api"
	"manystrand/token"
	"manystrand/tree"
)

// A maker makes random valid phrases.
type maker struct{ *rand.Rand }

func (m maker) pick(texts ...string) string { return texts[m.Intn(len(texts))] }

func (m maker) variable() api.Tree { return leaf("var", m.pick("X", "Y", "Z", "A1", "B_")) }

// different returns some different variables.
func (m maker) different(least int) []api.Tree {
	var l []api.Tree
	names := []string{"X", "Y", "Z", "A1", "B_"}
	for _, i := range m.Perm(len(names))[:least+m.Intn(3)] {
		l = append(l, leaf("var", names[i]))
	}
	return l
}

func (m maker) simple() api.Tree {
	switch m.Intn(8) {
	case 0:
		return leaf("atom", m.pick("a", "nil", "if", "", "b c", "'", "\\", "\n", "/", "true"))
	case 1:
		return leaf("int", m.pick("0", "1", "~1", "12", "~999999999999999999"))
	case 2:
		return leaf("str", m.pick("", "a", "\"\n", "/* %"))
	case 3:
		return someAny
	case 4:
		return node("skip")
	}
	return m.variable()
}

func (m maker) phrases(least, most, depth int) []api.Tree {
	var l []api.Tree
	for range least + m.Intn(most-least+1) {
		l = append(l, m.phrase(depth-1))
	}
	return l
}

// record returns a record, open or not, of parts that a function makes.
func (m maker) record(least int, part func() api.Tree) api.Tree {
	feats := []api.Feat{{N: 1}, {N: 2}, {N: 3}, {N: 7}, {N: 1000}, {Text: ""}, {Text: "B"}, {Text: "a"}, {Text: "if"}, {Text: "z y"}}
	chosen := m.Perm(len(feats))[:least+m.Intn(4)]
	slices.Sort(chosen)
	var kids []api.Tree
	for _, i := range chosen {
		kids = append(kids, field(feats[i], part()))
	}
	return rec("", m.pick("l", "'", "", "if", "#"), kids...)
}

// pattern takes its variables from a list of different ones.
func (m maker) pattern(depth int, vars *[]api.Tree) api.Tree {
	parts := func(least, most int) []api.Tree {
		var l []api.Tree
		for range least + m.Intn(most-least+1) {
			l = append(l, m.pattern(depth-1, vars))
		}
		return l
	}
	kind := m.Intn(9)
	switch {
	case depth > 1 && kind == 0:
		return node("list", parts(1, 3)...)
	case depth > 1 && kind == 1:
		return node("cons", parts(2, 2)...)
	case depth > 1 && kind == 2:
		return node("tuple", parts(2, 3)...)
	case depth > 1 && kind < 5:
		least := map[int]int{3: 1, 4: 0}[kind]
		t := m.record(least, func() api.Tree { return m.pattern(depth-1, vars) })
		t.Do = map[int]string{3: "rec", 4: "open"}[kind]
		return t
	case kind < 7 && len(*vars) > 0:
		v := (*vars)[0]
		*vars = (*vars)[1:]
		return v
	case kind < 8:
		return leaf("int", m.pick("0", "5", "~5"))
	}
	return m.pick2(someAny, leaf("atom", m.pick("a", "'", "then")))
}

func (m maker) pick2(l ...api.Tree) api.Tree { return l[m.Intn(len(l))] }

func (m maker) arms(depth int) []api.Tree {
	var l []api.Tree
	for range 1 + m.Intn(3) {
		vars := m.different(2)
		l = append(l, arm(m.pattern(3, &vars), m.phrase(depth-1)))
	}
	return append(l, m.phrases(0, 1, depth)...)
}

func (m maker) phrase(depth int) api.Tree {
	if depth <= 1 {
		return m.simple()
	}
	switch m.Intn(10) {
	case 0, 1:
		return m.simple()
	case 2, 3, 4:
		return m.bracketed(depth)
	case 5:
		t := m.record(1, func() api.Tree { return m.phrase(depth - 1) })
		t.Do = m.pick("rec", "open")
		return t
	case 6:
		return node("seq", m.phrases(2, 4, depth)...)
	}
	return m.keyed(depth)
}

func (m maker) bracketed(depth int) api.Tree {
	switch m.Intn(6) {
	case 0:
		return node("list", m.phrases(1, 3, depth)...)
	case 1:
		return node("tuple", m.phrases(2, 3, depth)...)
	case 2:
		return node(m.pick("neg", "get", "view"), m.phrases(1, 1, depth)...)
	case 3:
		return node("call", m.phrases(1, 3, depth)...)
	case 4:
		return op(m.pick("+", "-", "*", "div", "mod", "==", "\\=", "<", "=<", ">", ">=", "andthen", "orelse"), m.phrases(2, 2, depth)...)
	}
	return node(m.pick("cons", "dot", "set", "eq"), m.phrases(2, 2, depth)...)
}

func (m maker) keyed(depth int) api.Tree {
	part := func() api.Tree { return m.phrase(depth - 1) }
	switch m.Intn(11) {
	case 0:
		vars := m.different(1)
		return local(len(vars), append(vars, part())...)
	case 1, 2:
		return node(m.pick("proc", "fun", "lazy"), slices.Concat([]api.Tree{m.pick2(someAny, m.variable())}, m.different(0), []api.Tree{part()})...)
	case 3:
		return node("if", m.phrases(2, 3, depth)...)
	case 4:
		return node("case", append([]api.Tree{part()}, m.arms(depth)...)...)
	case 5:
		return node(m.pick("thread", "raise"), part())
	case 6:
		return node("try", part(), m.variable(), part())
	case 7:
		return node("for", m.variable(), part(), part(), part())
	case 8:
		return node("each", m.variable(), part(), part())
	case 9:
		return node("comp", append([]api.Tree{part(), m.variable()}, m.phrases(1, 2, depth)...)...)
	}
	return m.pick2(node("lock", part(), part()), node("choice", m.phrases(1, 3, depth)...))
}

// A loose writer writes the pieces of a phrase with as few brackets as its rank allows, and then
// with some brackets more: what parts two pieces is free.
type loose struct {
	maker
	pieces []string
	more   int // of so many phrases one has brackets that it need not have
}

func (w *loose) put(pieces ...string) { w.pieces = append(w.pieces, pieces...) }

func (w *loose) chance() bool { return w.more > 0 && w.Intn(w.more) == 0 }

var ranks = map[string]int{"eq": 1, "set": 1, "orelse": 2, "andthen": 3, "==": 4, "\\=": 4, "<": 4, "=<": 4, ">": 4, ">=": 4, "cons": 5, "tuple": 6, "+": 7, "-": 7, "*": 8, "div": 8, "mod": 8, "neg": 9, "get": 9, "view": 9, "dot": 10}

var signs = map[string]string{"eq": "=", "set": ":=", "cons": "|", "tuple": "#", "neg": "~", "get": "@", "view": "!!", "dot": "."}

func rankOf(t api.Tree) (rank int, sign string) {
	if t.Do == "op" {
		return ranks[t.Text], t.Text
	}
	if rank := ranks[t.Do]; rank > 0 {
		return rank, signs[t.Do]
	}
	if t.Do == "seq" {
		return 0, ""
	}
	return 11, ""
}

// phrase writes a phrase where one of at least a rank must stand.
func (w *loose) phrase(t api.Tree, least int) {
	rank, sign := rankOf(t)
	if rank < least || w.chance() {
		w.put("(")
		w.phrase(t, 0)
		w.put(")")
		return
	}
	switch {
	case rank == 0:
		for _, kid := range t.Kids {
			w.phrase(kid, 1)
		}
	case rank == 11:
		w.unit(t)
	case rank == 9:
		if sign == "~" && t.Kids[0].Do == "int" {
			sign = "~ " // directly in front of digits it would belong to them
		}
		w.put(sign)
		w.phrase(t.Kids[0], 9)
	case rank == 6:
		w.phrase(t.Kids[0], 7)
		for _, kid := range t.Kids[1:] {
			w.put(sign)
			w.phrase(kid, 7)
		}
	default:
		left, right := rank+1, rank+1
		switch rank {
		case 1, 2, 3, 5:
			right = rank
		case 7, 8, 10:
			left = rank
		}
		w.phrase(t.Kids[0], left)
		w.put(sign)
		w.phrase(t.Kids[1], right)
	}
}

func (w *loose) body(t api.Tree, closing string) {
	w.phrase(t, 0)
	w.put(closing)
}

func (w *loose) several(l []api.Tree, closing string) {
	for _, t := range l {
		w.phrase(t, 1)
	}
	w.put(closing)
}

func source(kind, text string) string {
	s, _ := token.Text(api.Token{Kind: kind, Text: text})
	return s
}

// fields writes fields in any order; those with the numbers 1, 2, .. in turn need no feature.
func (w *loose) fields(t api.Tree, opening string) {
	w.put(opening)
	var order []api.Tree
	turn := 0
	for len(t.Kids) > turn && t.Kids[turn].N == turn+1 && w.Intn(4) > 0 {
		turn++
	}
	order = append(order, t.Kids[turn:]...)
	w.Shuffle(len(order), func(i, j int) { order[i], order[j] = order[j], order[i] })
	at := 0
	for i := range turn {
		at += w.Intn(len(order) - at + 1)
		order = slices.Insert(order, at, api.Tree{Do: "turn", Kids: t.Kids[i].Kids})
		at++
	}
	for _, f := range order {
		switch {
		case f.Do == "turn":
		case f.N > 0:
			w.put(strconv.Itoa(f.N), ":")
		default:
			w.put(source("atom", f.Text), ":")
		}
		w.phrase(f.Kids[0], 1)
	}
	if t.Do == "open" {
		w.put("...")
	}
	w.put(")")
}

func (w *loose) unit(t api.Tree) {
	kids, last := t.Kids, len(t.Kids)-1
	switch t.Do {
	case "var", "atom", "int":
		w.put(source(t.Do, t.Text))
	case "str":
		w.put(source("text", t.Text))
	case "any":
		w.put("_")
	case "skip":
		w.put("skip")
	case "rec", "open":
		w.fields(t, source("atom", t.Text)+"(")
	case "list":
		w.put("[")
		w.several(kids, "]")
	case "call":
		w.put("{")
		w.several(kids, "}")
	case "local":
		w.names("local", kids[:last], "in")
		w.body(kids[last], "end")
	case "proc", "fun", "lazy":
		w.put(map[string][]string{"proc": {"proc", "{"}, "fun": {"fun", "{"}, "lazy": {"fun", "lazy", "{"}}[t.Do]...)
		w.put(map[bool]string{true: "$", false: kids[0].Text}[kids[0].Do == "any"])
		w.names("", kids[1:last], "}")
		w.body(kids[last], "end")
	default:
		w.keyed(t, kids)
	}
}

func (w *loose) names(opening string, l []api.Tree, closing string) {
	if opening != "" {
		w.put(opening)
	}
	for _, t := range l {
		w.put(t.Text)
	}
	w.put(closing)
}

func (w *loose) keyed(t api.Tree, kids []api.Tree) {
	one := func(opening string, i int, closing string) {
		w.put(opening)
		w.several(kids[i:i+1], closing)
	}
	switch t.Do {
	case "if":
		one("if", 0, "then")
		if len(kids) > 2 {
			w.body(kids[1], "else")
		}
		w.body(kids[len(kids)-1], "end")
	case "case":
		one("case", 0, "of")
		w.arms(kids[1:])
	case "thread":
		w.put("thread")
		w.body(kids[0], "end")
	case "raise":
		one("raise", 0, "end")
	case "try":
		w.put("try")
		w.body(kids[0], "catch")
		w.put(kids[1].Text, "then")
		w.body(kids[2], "end")
	case "for":
		w.put("for", kids[0].Text)
		one("in", 1, "at")
		w.several(kids[2:3], "do")
		w.body(kids[3], "end")
	case "each":
		w.put("for", "each", kids[0].Text)
		one("in", 1, "do")
		w.body(kids[2], "end")
	case "comp":
		one("[", 0, "for")
		w.put(kids[1].Text, "in")
		w.phrase(kids[2], 1)
		if len(kids) > 3 {
			w.put("if")
			w.phrase(kids[3], 1)
		}
		w.put("]")
	case "lock":
		one("lock", 0, "then")
		w.body(kids[1], "end")
	case "choice":
		w.put("choice")
		for i, kid := range kids {
			w.body(kid, map[bool]string{true: "end", false: "[]"}[i == len(kids)-1])
		}
	}
}

func (w *loose) arms(l []api.Tree) {
	for i, t := range l {
		if t.Do != "arm" {
			w.body(t, "end")
			return
		}
		w.several(t.Kids[:1], "then")
		closing := "[]"
		if i == len(l)-1 {
			closing = "end"
		} else if l[i+1].Do != "arm" {
			closing = "else"
		}
		w.body(t.Kids[1], closing)
	}
}

// text puts blanks and remarks between the pieces.
func (w *loose) text() string {
	var b strings.Builder
	for _, piece := range w.pieces {
		b.WriteString(piece)
		b.WriteString(w.pick(" ", " ", " ", "\n", "\t", "% (\n", "/* end /* */ */", " \r"))
	}
	return b.String()
}

func TestRandomTrees(t *testing.T) {
	m := maker{rand.New(rand.NewSource(1))}
	count := 0
	for range 12000 {
		v := m.phrase(2 + m.Intn(5))
		if !tree.Valid(v) {
			if tree.Size(v) > api.MaxTree {
				continue
			}
			t.Fatalf("P2.2: not valid: %s", brief(v))
		}
		text, err := tree.Print(v)
		if err != api.OK {
			t.Fatalf("P2.2: Print of %s: %d", brief(v), err)
		}
		if len(text) > api.MaxSource {
			continue
		}
		count++
		checkTree(t, "Print", text, v)
		if again, _ := tree.Print(mustParse(t, text)); again != text {
			t.Fatalf("P2.4: %q, not %q", again, text)
		}
		if lines, _ := tree.Lines(v); len(strings.Join(lines, "\n")) <= api.MaxSource {
			checkTree(t, "Lines", strings.Join(lines, "\n"), v)
			checkLines(t, lines, text, v)
		}
		for _, more := range []int{0, 3, 1000} {
			w := loose{maker: m, more: more}
			if more == 1000 {
				w.more = 8
			}
			w.phrase(v, 0)
			if text := w.text(); len(text) <= api.MaxSource {
				checkTree(t, "loosely", text, v)
			}
		}
		if got, want := tree.Vars(v), firsts(freeOf(v)); !slices.Equal(got, want) {
			t.Fatalf("P2.3: Vars of %s: %v; want %v", text, got, want)
		}
		checkMeasures(t, v)
	}
	if count < 9000 {
		t.Fatalf("only %d trees", count)
	}
}

func checkTree(t *testing.T, how, text string, want api.Tree) {
	t.Helper()
	got, err := tree.Parse(text)
	if err != api.OK || brief(got) != brief(want) || !tree.Same(got, want) {
		t.Fatalf("P2.4: %s: Parse(%q): %s, %d; want %s", how, text, brief(got), err, brief(want))
	}
}

// checkLines: but for the outermost brackets, lines have the text of Print; they are two spaces
// deeper or less deep than the one ahead, or more than that less deep.
func checkLines(t *testing.T, lines []string, text string, v api.Tree) {
	t.Helper()
	if v.Do == "seq" {
		text = text[1 : len(text)-1]
	}
	var parts []string
	depth := 0
	for i, line := range lines {
		part := strings.TrimLeft(line, " ")
		spaces := len(line) - len(part)
		if spaces%2 != 0 || spaces > depth+2 || i == 0 && spaces > 0 || part == "" || strings.HasSuffix(part, " ") {
			t.Fatalf("P2.2: line %d of %q", i, lines)
		}
		depth = spaces
		parts = append(parts, part)
	}
	if strings.Join(parts, " ") != text || depth != 0 {
		t.Fatalf("P2.2: %q, not the text of %q", lines, text)
	}
}

func without(l []string, bound []api.Tree) []string {
	return slices.DeleteFunc(slices.Clone(l), func(name string) bool {
		return slices.ContainsFunc(bound, func(t api.Tree) bool {
			return t.Do == "var" && t.Text == name || slices.Contains(freeOf(node("list", t.Kids...)), name)
		})
	})
}

// freeOf returns the free variables, as often as they stand: those of the Kids without what is bound in them.
func freeOf(t api.Tree) []string {
	k := t.Kids
	switch t.Do {
	case "var":
		return []string{t.Text}
	case "local":
		return without(freeOf(k[t.N]), k[:t.N])
	case "proc", "fun", "lazy":
		return append(freeOf(k[0]), without(freeOf(k[len(k)-1]), k[1:len(k)-1])...)
	case "arm":
		return without(freeOf(k[1]), k[:1])
	case "try":
		return append(freeOf(k[0]), without(freeOf(k[2]), k[1:2])...)
	case "for":
		return slices.Concat(freeOf(k[1]), freeOf(k[2]), without(freeOf(k[3]), k[:1]))
	case "each":
		return slices.Concat(freeOf(k[1]), without(freeOf(k[2]), k[:1]))
	case "comp":
		return slices.Concat(without(freeOf(k[0]), k[1:2]), freeOf(k[2]), without(freeOf(node("list", k[3:]...)), k[1:2]))
	}
	var l []string
	for _, kid := range k {
		l = append(l, freeOf(kid)...)
	}
	return l
}

func firsts(l []string) []string {
	var out []string
	for _, s := range l {
		if !slices.Contains(out, s) {
			out = append(out, s)
		}
	}
	return out
}

func checkMeasures(t *testing.T, v api.Tree) {
	t.Helper()
	var measure func(v api.Tree) (size, depth int)
	measure = func(v api.Tree) (size, depth int) {
		size = 1
		for _, kid := range v.Kids {
			s, d := measure(kid)
			size += s
			depth = max(depth, d)
		}
		return size, depth + 1
	}
	if size, depth := measure(v); tree.Size(v) != size || tree.Depth(v) != depth {
		t.Fatalf("P2.2: %s: %d, %d; want %d, %d", brief(v), tree.Size(v), tree.Depth(v), size, depth)
	}
}
