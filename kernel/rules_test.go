package kernel_test

import (
	"math/rand"
	"slices"
	"strconv"
	"strings"
	"testing"

	"manystrand/api"
	"manystrand/kernel"
	"manystrand/token"
	"manystrand/tree"
)

// A rule of the chapter's tables as text: a second reading, which writes words and knows nothing of
// statements. Words: $1 the name of a Kid, @1 a Kid as a statement, @1>V as the value of V, @1> as
// the phrase itself is, #1 the Text of a Kid, * the parameters, > the variable for the value.
type rule struct {
	named string // Kids that are named, ahead of all else
	fresh string // new variables, taken behind these
	text  string
}

var rules = map[string]rule{
	"skip":   {"", "", "skip"},
	"set":    {"0 1", "", "op set $0 $1"},
	"raise":  {"0", "", "raise $0"},
	"thread": {"", "", "thread @0> end"},
	"try":    {"", "", "try @0> catch #1 then @2> end"},
	"lock":   {"0", "X", "op take $0 try @1> catch X then op give $0 raise X end op give $0"},
	"for":    {"1 2", "V T U W", "local V in V = proc { #0 } local T in op =< #0 $2 T if T then @3 local U W in U = 1 op + #0 U W { V W } end else skip end end end { V $1 } end"},
	"each":   {"1", "V L T", "local V in V = proc { L } case L of '|' ( 1 : #0 2 : T ) then @2 { V T } else skip end end { V $1 } end"},
	"proc":   {"", "", "F = proc { * } @last end"},
	"fun":    {"", "R", "F = proc { * R } @last>R end"},
	"lazy":   {"", "R V T", "F = proc { * R } local V in V = proc { T } @last>T end op byneed V R end end"},
	"dot":    {"0 1", "", "op dot $0 $1 >"},
	"neg":    {"0", "", "op ~ $0 >"},
	"get":    {"0", "", "op get $0 >"},
	"view":   {"0", "", "op view $0 >"},
	"comp":   {"2", "V L R T H K", "local V in V = proc { L R } case L of '|' ( 1 : #1 2 : T ) then FILTERED else R = nil end end { V $2 > } end"},
	"taken":  {"", "", "local H K in R = '|' ( 1 : H 2 : K ) @0>H { V T K } end"},
	"if2":    {"0", "", "if $0 then @1> else skip end"},
	"if2>":   {"0", "", "if $0 then @1> else > = unit end"},
	"if3":    {"0", "", "if $0 then @1> else @2> end"},
}

// A textual translator writes the words of a statement.
type textual struct {
	count int
	bound []string
}

func (m *textual) new() string {
	m.count++
	return "_" + strconv.Itoa(m.count)
}

// named writes what use writes with the names of phrases.
func (m *textual) named(l []api.Tree, use func(names []string) string) string {
	names := make([]string, len(l))
	var made []string
	for i, t := range l {
		names[i] = t.Text
		if t.Do != "var" {
			names[i] = m.new()
			made = append(made, names[i])
		}
	}
	text := ""
	for i, t := range l {
		if t.Do != "var" {
			text += m.val(t, names[i]) + " "
		}
	}
	text += use(names)
	if len(made) > 0 {
		text = "local " + strings.Join(made, " ") + " in " + text + " end"
	}
	return text
}

// binders returns the Kids of a phrase that bind variables in another Kid.
func binders(t api.Tree, kid int) []api.Tree {
	last := len(t.Kids) - 1
	switch t.Do {
	case "local":
		return t.Kids[:last]
	case "proc", "fun", "lazy":
		return t.Kids[1:last]
	case "try":
		if kid == 2 {
			return t.Kids[1:2]
		}
	case "for", "each":
		if kid == last {
			return t.Kids[:1]
		}
	case "comp":
		if kid != 2 {
			return t.Kids[1:2]
		}
	case "arm":
		return t.Kids[:1]
	}
	return nil
}

// kid writes a Kid in its scope.
func (m *textual) kid(t api.Tree, kid int, to string) string {
	before := m.bound
	for _, p := range binders(t, kid) {
		m.bound = slices.Concat(m.bound, variablesOf(p))
	}
	text := m.text(t.Kids[kid], to)
	m.bound = before
	return text
}

func variablesOf(p api.Tree) []string {
	if p.Do == "var" {
		return []string{p.Text}
	}
	var l []string
	for _, kid := range p.Kids {
		l = append(l, variablesOf(kid)...)
	}
	return l
}

func (m *textual) apply(name string, t api.Tree, to string, known map[string]string) string {
	r := rules[name]
	var kids []api.Tree
	for _, k := range strings.Fields(r.named) {
		i, _ := strconv.Atoi(k)
		kids = append(kids, t.Kids[i])
	}
	return m.named(kids, func(names []string) string {
		words := map[string]string{">": to}
		for word, text := range known {
			words[word] = text
		}
		for i, k := range strings.Fields(r.named) {
			words["$"+k] = names[i]
		}
		for _, v := range strings.Fields(r.fresh) {
			words[v] = m.new()
		}
		var out []string
		for _, word := range strings.Fields(r.text) {
			out = append(out, m.word(word, t, to, words))
		}
		return strings.Join(out, " ")
	})
}

func (m *textual) word(word string, t api.Tree, to string, words map[string]string) string {
	if text, found := words[word]; found {
		return text
	}
	number, target, valued := strings.Cut(word[1:], ">")
	kid, err := strconv.Atoi(number)
	switch {
	case number == "last":
		kid = len(t.Kids) - 1
	case word == "*":
		return strings.Join(variablesOf(api.Tree{Kids: t.Kids[1 : len(t.Kids)-1]}), " ")
	case word == "FILTERED" && len(t.Kids) == 3:
		return m.apply("taken", t, "", words)
	case word == "FILTERED":
		before := m.bound
		m.bound = append(slices.Clone(m.bound), t.Kids[1].Text)
		text := m.named(t.Kids[3:], func(names []string) string {
			return "if " + names[0] + " then " + m.apply("taken", t, "", words) + " else { " + words["V"] + " " + words["T"] + " " + words["R"] + " } end"
		})
		m.bound = before
		return text
	case err != nil:
		return word
	}
	switch word[0] {
	case '#':
		return t.Kids[kid].Text
	case '@':
		switch {
		case valued && target == "":
			return m.kid(t, kid, to)
		case valued:
			return m.kid(t, kid, words[target])
		}
		return m.kid(t, kid, "")
	}
	return word
}

// text writes a phrase as the value of a variable, or (of none) as a statement.
func (m *textual) text(t api.Tree, to string) string {
	if to != "" {
		return m.val(t, to)
	}
	switch t.Do {
	case "eq":
		return m.equation(t.Kids[0], t.Kids[1])
	case "skip", "set", "raise", "for", "each":
		return m.apply(t.Do, t, "", nil)
	case "seq", "local", "thread", "if", "case", "try", "lock", "choice", "call":
		return m.both(t, "")
	case "proc", "fun", "lazy":
		if t.Kids[0].Do == "var" {
			return m.apply(t.Do, t, "", map[string]string{"F": t.Kids[0].Text})
		}
	}
	v := m.new()
	return "local " + v + " in " + m.val(t, v) + " end"
}

func (m *textual) equation(e, f api.Tree) string {
	if e.Do == "var" {
		return m.val(f, e.Text)
	}
	if f.Do == "var" {
		return m.val(e, f.Text)
	}
	v := m.new()
	text := "local " + v + " in " + m.val(e, v)
	return text + " " + m.val(f, v) + " end"
}

func (m *textual) val(t api.Tree, x string) string {
	switch t.Do {
	case "var", "int":
		return x + " = " + t.Text
	case "any":
		return "skip"
	case "atom":
		text, _ := token.Quote(t.Text)
		return x + " = " + text
	case "rec", "cons", "tuple", "list", "str":
		return m.record(t, x)
	case "op":
		switch t.Text {
		case "andthen":
			return m.apply("if3", api.Tree{Do: "if", Kids: []api.Tree{t.Kids[0], t.Kids[1], {Do: "atom", Text: "false"}}}, x, nil)
		case "orelse":
			return m.apply("if3", api.Tree{Do: "if", Kids: []api.Tree{t.Kids[0], {Do: "atom", Text: "true"}, t.Kids[1]}}, x, nil)
		}
		return m.named(t.Kids, func(names []string) string { return "op " + t.Text + " " + names[0] + " " + names[1] + " " + x })
	case "dot", "neg", "get", "view", "comp", "raise":
		return m.apply(t.Do, t, x, nil)
	case "seq", "local", "thread", "if", "case", "try", "lock", "choice", "call":
		return m.both(t, x)
	case "proc", "fun", "lazy":
		if t.Kids[0].Do == "any" {
			return m.apply(t.Do, t, "", map[string]string{"F": x})
		}
		return m.text(t, "") + " " + x + " = " + t.Kids[0].Text
	}
	return m.text(t, "") + " " + x + " = unit"
}

// both writes what is alike as a statement and as a value.
func (m *textual) both(t api.Tree, to string) string {
	last := len(t.Kids) - 1
	switch t.Do {
	case "seq":
		text := ""
		for _, kid := range t.Kids[:last] {
			text += m.text(kid, "") + " "
		}
		return text + m.text(t.Kids[last], to)
	case "local":
		return "local " + strings.Join(variablesOf(api.Tree{Kids: t.Kids[:last]}), " ") + " in " + m.kid(t, last, to) + " end"
	case "choice":
		var l []string
		for _, kid := range t.Kids {
			l = append(l, m.text(kid, to))
		}
		return "choice " + strings.Join(l, " [] ") + " end"
	case "if":
		name := "if" + strconv.Itoa(len(t.Kids))
		if name == "if2" && to != "" {
			name += ">"
		}
		return m.apply(name, t, to, nil)
	case "case":
		return m.named(t.Kids[:1], func(names []string) string { return m.arms(names[0], t.Kids[1:], to) })
	case "call":
		return m.call(t, to)
	}
	return m.apply(t.Do, t, to, nil)
}

func (m *textual) call(t api.Tree, to string) string {
	args := len(t.Kids) - 1
	if to != "" {
		args++
	}
	f := t.Kids[0]
	if operation := map[string]string{"Show": "1 show", "Cell": "2 cell", "Det": "2 det", "Newname": "1 newname"}[f.Text]; f.Do == "var" && operation != "" && !slices.Contains(m.bound, f.Text) {
		if count, name, _ := strings.Cut(operation, " "); count == strconv.Itoa(args) {
			return m.named(t.Kids[1:], func(names []string) string { return "op " + name + " " + strings.Join(names, " ") + " " + to })
		}
	}
	return m.named(t.Kids, func(names []string) string { return "{ " + strings.Join(names, " ") + " " + to + " }" })
}

// fields returns a record's label and its fields, features and phrases.
func fields(t api.Tree) (label string, feats []string, parts []api.Tree) {
	kids := t.Kids
	switch t.Do {
	case "str":
		for i := range len(t.Text) {
			kids = append(kids, api.Tree{Do: "int", Text: strconv.Itoa(int(t.Text[i]))})
		}
		fallthrough
	case "list":
		rest := api.Tree{Do: "atom", Text: "nil"}
		if len(kids) > 1 {
			rest = api.Tree{Do: "list", Kids: kids[1:]}
		}
		return "'|'", []string{"1", "2"}, []api.Tree{kids[0], rest}
	case "cons":
		return "'|'", []string{"1", "2"}, kids
	case "tuple":
		for i := range kids {
			feats = append(feats, strconv.Itoa(i+1))
		}
		return "'#'", feats, kids
	}
	label, _ = token.Quote(t.Text)
	for _, kid := range kids {
		feat, _ := token.Quote(kid.Text)
		if kid.N > 0 {
			feat = strconv.Itoa(kid.N)
		}
		feats, parts = append(feats, feat), append(parts, kid.Kids[0])
	}
	return label, feats, parts
}

func written(label string, feats, names []string, more string) string {
	if len(feats) == 0 && more == "" {
		return label
	}
	text := label + " ("
	for i, feat := range feats {
		text += " " + feat + " : " + names[i]
	}
	return text + " " + more + " )"
}

func (m *textual) record(t api.Tree, x string) string {
	if t.Do == "str" && t.Text == "" {
		return x + " = nil"
	}
	label, feats, parts := fields(t)
	return m.named(parts, func(names []string) string { return x + " = " + written(label, feats, names, "") })
}

func (m *textual) arms(s string, l []api.Tree, to string) string {
	if len(l) == 0 {
		return "op nomatch " + s
	}
	if l[0].Do != "arm" {
		return m.text(l[0], to)
	}
	vars := map[string][]string{}
	m.take(l[0].Kids[0], "", vars)
	yes := m.kid(l[0], 1, to)
	return match(l[0].Kids[0], "", s, vars, yes, m.arms(s, l[1:], to))
}

// take takes the new variables of a pattern, by the way that leads to each of its records.
func (m *textual) take(p api.Tree, way string, vars map[string][]string) {
	switch p.Do {
	case "any", "var", "int", "atom":
		return
	}
	_, _, parts := fields(p)
	for range parts {
		vars[way] = append(vars[way], m.new())
	}
	for i, part := range parts {
		m.take(part, way+"."+strconv.Itoa(i), vars)
	}
}

func match(p api.Tree, way, s string, vars map[string][]string, yes, no string) string {
	switch p.Do {
	case "any":
		return yes
	case "var":
		return "local " + p.Text + " in " + p.Text + " = " + s + " " + yes + " end"
	case "int":
		return "number " + s + " " + p.Text + " then " + yes + " else " + no + " end"
	}
	label, feats, parts := fields(p)
	more := ""
	if p.Do == "open" {
		more = "..."
	}
	return "case " + s + " of " + written(label, feats, vars[way], more) + " then " + matchParts(parts, 0, way, vars, yes, no) + " else " + no + " end"
}

func matchParts(parts []api.Tree, i int, way string, vars map[string][]string, yes, no string) string {
	if i == len(parts) {
		return yes
	}
	rest := matchParts(parts, i+1, way, vars, yes, no)
	return match(parts[i], way+"."+strconv.Itoa(i), vars[way][i], vars, rest, no)
}

// apart returns a text with single spaces between its words, brackets and colons.
func apart(text string) string {
	text = strings.NewReplacer("{", " { ", "}", " } ", "(", " ( ", ")", " ) ", ":", " : ").Replace(text)
	return strings.Join(strings.Fields(text), " ")
}

func TestRulesAsTexts(t *testing.T) {
	m := maker{rand.New(rand.NewSource(1))}
	count := 0
	for range 8000 {
		text := m.source(2 + m.Intn(3))
		p, err := tree.Parse(text)
		if err != api.OK {
			t.Fatalf("a source that cannot be read: %q: %d", text, err)
		}
		s, err := kernel.Translate(p)
		if err != api.OK {
			continue
		}
		count++
		printed, _ := kernel.Print(s)
		if got, want := apart(printed), apart((&textual{}).text(p, "")); got != want {
			t.Fatalf("P3.1: Load(%q)\n got %s\nwant %s", text, got, want)
		}
	}
	if count < 6000 {
		t.Fatalf("too few statements: %d", count)
	}
}
