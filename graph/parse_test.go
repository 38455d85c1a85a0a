package graph_test

import (
	"fmt"
	"regexp"
	"strings"
	"testing"

	"manystrand/api"
	"manystrand/graph"
)

// TestParse: what texts may have besides what Text makes.
func TestParse(t *testing.T) {
	for source, want := range map[string]string{
		" 1 ":                         "1",
		"~1":                          "~1",
		"'a'":                         "a",
		"a%x":                         "a",
		"/*x/*y*/*/ 'a' % (":          "a",
		"_ 3":                         "_3",
		"_/**/3":                      "_3",
		"< cell 3 >":                  "<cell 3>",
		"<cell%\n3>":                  "<cell 3>",
		"<\tproc 3\n>":                "<proc 3>",
		"<lock 1>":                    "<lock 1>",
		"<'cell' 1>":                  "<cell 1>",
		"f( 1 : 2\n)":                 "f(1:2)",
		"'f'('g':'a')":                "f(g:a)",
		"f(b:1 2:2 a:3 1:4)":          "f(1:4 2:2 a:3 b:1)",
		"f(b:1 a:2 1000:3)":           "f(1000:3 a:2 b:1)",
		"'|'(1:1 2:2)":                "(1|2)",
		"'|'(2:nil 1:1)":              "[1]",
		"(1|nil)":                     "[1]",
		"(1|(2|nil))":                 "[1 2]",
		"(1|[2])":                     "[1 2]",
		"'#'(1:1 2:2)":                "(1#2)",
		"'#'(2:2 1:1 3:3)":            "(1#2#3)",
		"((1#2)#3)":                   "((1#2)#3)",
		"[a (1|2)]":                   "[a (1|2)]",
		"[a(1:1)]":                    "[a(1:1)]",
		"[a/**/(1|2)]":                "[a (1|2)]",
		"['a'%\n(1|2)]":               "[a (1|2)]",
		"[_1_2]":                      "[_1 _2]",
		"C1=f(1:1)":                   "f(1:1)",
		"C7=f(1:C7)":                  "C1=f(1:C1)",
		"C9999=f(1:C9999)":            "C1=f(1:C1)",
		"C1 = f(1:C1)":                "C1=f(1:C1)",
		"C1 /*x*/ = %\n(1|C1)":        "C1=(1|C1)",
		"f(1:C1 2:C1=g(1:1))":         "f(1:C1=g(1:1) 2:C1)",
		"(C2|C2=(1|C1=(2|C1)))":       "(C1=(1|C2=(2|C2))|C1)",
		"f(1:g(1:1) 2:g(1:1))":        "f(1:C1=g(1:1) 2:C1)",
		"C1=(1|(1|C1))":               "C1=(1|C1)",
		"C1=(1|C2=(1|C1))":            "C1=(1|C1)",
		"C2=f(1:C1=f(1:C2))":          "C1=f(1:C1)",
		"C1=[1 C1]":                   "C1=[1 C1]",
		"f(2:C1 1:C1=[1 2])":          "f(1:C1=[1 2] 2:C1)",
		"C1='|'(1:1 2:C1)":            "C1=(1|C1)",
		"f(2:C2=g(1:1) 1:C1=h(1:C2))": "f(1:h(1:C1=g(1:1)) 2:C1)",
	} {
		g, err := graph.Parse(source)
		if err != api.OK || text(g) != want {
			t.Errorf("P5.2: Parse(%q): %q, %d; want %q", source, text(g), err, want)
		}
		if l, err := graph.Least(g); err != api.OK || !same(l, g) {
			t.Errorf("P5.2: Parse(%q) is not least: %v, %d", source, g, err)
		}
	}
}

// TestParseNodes: the nodes themselves.
func TestParseNodes(t *testing.T) {
	for source, want := range map[string]api.Graph{
		"~999999999999999999":    of(integer(-api.MaxInt)),
		"'a\\n\\'\\\\'":          of(atom("a\n'\\")),
		"_999999999999999999":    of(variable(api.MaxInt)),
		"<dead 12>":              of(thing("dead", 12)),
		"C1=(1|C1)":              of(pair(1, 0), integer(1)),
		"[1 1]":                  of(pair(1, 2), integer(1), pair(1, 3), atom("nil")),
		"(1#2#1)":                of(record("#", "1", 1, "2", 2, "3", 1), integer(1), integer(2)),
		"f(b:a 2:_1 10:g(1:_1))": of(record("f", "2", 1, "10", 2, "b", 3), variable(1), record("g", "1", 1), atom("a")),
	} {
		if g, err := graph.Parse(source); err != api.OK || !same(g, want) {
			t.Errorf("P5.2: Parse(%q): %v, %d", source, g, err)
		}
	}
	for _, sort := range sorts {
		if g, err := graph.Parse("<" + sort + " 1>"); err != api.OK || !same(g, of(thing(sort, 1))) {
			t.Errorf("P5.2: Parse of a %s: %v, %d", sort, g, err)
		}
	}
}

func TestParseErrors(t *testing.T) {
	for err, sources := range map[api.Errno][]string{
		api.ErrToken: {"'", "a;", "f(1:'a)", "01", "1000000000000000000", "_01", "/*", "'a\tb'", "(1 ;", "C1=;"},
		api.ErrForm: {
			"", " ", "%", "1 2", "a b", "a)", "(", ")", "(1", "(1)", "()", "(1|", "(1|)", "(1|2", "(1|2|3)", "(|1)",
			"1|2", "1#2", "(1#)", "(1#2|3)", "(1|2#3)", "(1#2", "(1 2)", "[", "[]", "[ ]", "[1", "]", "[1|2]", "[1,2]"[:2],
			"~0", "~ 1", "1.5"[:2], "a(1)", "a()", "a(", "a(1:", "a(1:)", "a(1:1", "a(1:1 2)", "a(1:1 :2)", "a(:1)",
			"a(1:1 1:2)", "a(b:1 b:1)", "a(b:1 'b':1)", "a(0:1)", "a(~1:1)", "a(1001:1)", "a(X:1)", "a(if:1)", "a(_:1)", "a(1=1)",
			"a(1:1 ...)", "a(...)", "a (1:1)", "a/**/(1:1)", "a%\n(1:1)", "f(1:a (1:1))",
			"if", "proc", "if(1:1)", "1(1:1)", "X(1:1)", "_(1:1)", "nil()", "\"a\"", "&a", "$", "@1", "!!1", "{1}", "skip",
			"_", "_0", "_~1", "_a", "_ _", "_C1", "_(1)", "<cell>", "<cell 0>", "<cell ~1>", "<cell a>", "<cell 1", "cell 1>",
			"<thing 1>", "<if 1>", "< 1>", "<cell 1 2>", "<Cell 1>", "<\"cell\" 1>", "<cell _1>",
			"X", "C", "C0", "C0=f(1:1)", "C01=f(1:1)", "C10000=f(1:1)", "C1a=f(1:1)", "C1", "C1=", "C1=1", "C1=a", "C1=nil",
			"C1=_1", "C1=<cell 1>", "C1=C1", "C1=C2", "(C2=C1=f(1:1)|C1)", "f(1:C1)", "(C1|C2=f(1:1))", "C1=f(1:C2)", "C=f(1:1)",
			"(C1=f(1:1)|C1=f(1:1))", "C1=f(1:C1=g(1:1))", "C1=(1|C1=(1|C1))", "C1=[C1=[1]]", "C1:=f(1:1)", "C1==f(1:1)", "c1=f(1:1)",
			"D1=f(1:D1)", "C1=(1)", "C1=[]", "C1=f", "C1=f()",
		},
		api.ErrLimit: {strings.Repeat(" ", api.MaxSource) + "1", strings.Repeat(";", api.MaxSource+1)},
	} {
		for _, source := range sources {
			if g, got := graph.Parse(source); got != err || !isZero(g) {
				t.Errorf("P5.2: Parse(%q): %v, %d; want %d", source, g, got, err)
			}
		}
	}
}

// TestParseLimits: only the nodes of the least graph count, and what is no text comes first.
func TestParseLimits(t *testing.T) {
	list := func(n int, items ...string) string {
		l := make([]string, n)
		for i := range l {
			l[i] = items[i%len(items)]
		}
		return "[" + strings.Join(l, " ") + "]"
	}
	fields := func(n int, part string) string {
		var b strings.Builder
		for i := range n {
			fmt.Fprintf(&b, "%d:%s ", i+1, part)
		}
		return b.String()
	}
	tuple := func(n int) string { return "(" + strings.Repeat("1#", n-1) + "1)" }
	deep := func(n int) string { return strings.Repeat("f(1:", n) + "1" + strings.Repeat(")", n) }
	for i, c := range []struct {
		source string
		err    api.Errno
		nodes  int
	}{
		{list(999, "nil"), api.OK, 1000}, {list(1000, "nil"), api.ErrLimit, 0}, {list(998, "1"), api.OK, 1000},
		{list(999, "1"), api.ErrLimit, 0}, {list(9999, "1"), api.ErrLimit, 0}, {list(999, "1") + " 1", api.ErrForm, 0},
		{list(5000, "1") + " C1", api.ErrForm, 0},
		{tuple(1000), api.OK, 2}, {tuple(1001), api.ErrForm, 0}, {"f(" + fields(1000, "a") + "a:a)", api.OK, 2},
		{"f(" + fields(1001, "a") + ")", api.ErrForm, 0}, {deep(999), api.OK, 1000}, {deep(1000), api.ErrLimit, 0},
		{deep(3999), api.ErrLimit, 0}, {strings.Repeat("(", api.MaxSource), api.ErrForm, 0},
		{strings.Repeat("[", api.MaxSource), api.ErrForm, 0}, {"C1=" + list(4000, "C1")[:12000] + "C1|C1", api.ErrForm, 0},
		{"C1=" + strings.Repeat("(1|", 4000) + "C1" + strings.Repeat(")", 4000), api.OK, 2},
		{"f(1:" + list(900, "1") + " 2:" + list(900, "1") + ")", api.OK, 903},
	} {
		g, err := graph.Parse(c.source)
		if err != c.err || len(g.Nodes) != c.nodes {
			t.Errorf("P5.2: Parse %d: %d nodes, %d", i, len(g.Nodes), err)
		}
	}
}

// The pieces of texts, by letters: v a value without features, m a mark, d a mark and its `=`,
// r a label and its bracket, n and f features, each with its colon.
var pieces = map[byte]string{
	'v': "1", 'm': "C1", 'd': "C1=", 'r': "a(", 'n': "1:", 'f': "b:", '(': "(", ')': ")", '[': "[", ']': "]", '|': "|", '#': "#",
}

// reductions replace what is a record with features by R, and one with a mark by D.
var reductions = []struct {
	form *regexp.Regexp
	to   string
}{
	{regexp.MustCompile(`r(n[vmRD](f[vmRD])?|f[vmRD](n[vmRD])?)\)`), "R"},
	{regexp.MustCompile(`\([vmRD]\|[vmRD]\)`), "R"},
	{regexp.MustCompile(`\([vmRD](#[vmRD])+\)`), "R"},
	{regexp.MustCompile(`\[[vmRD]+\]`), "R"},
	{regexp.MustCompile(`dR`), "D"},
}

// isText is a second reading of the chapter: it reduces letters as long as it can.
func isText(letters string) bool {
	marks, given := strings.Count(letters, "m"), strings.Count(letters, "d")
	for before := ""; before != letters; {
		before = letters
		for _, r := range reductions {
			letters = r.form.ReplaceAllString(letters, r.to)
		}
	}
	return len(letters) == 1 && strings.Contains("vmRD", letters) && given <= 1 && (marks == 0 || given == 1)
}

func checkForm(t *testing.T, letters string) {
	t.Helper()
	var l []string
	for i := range len(letters) {
		l = append(l, pieces[letters[i]])
	}
	source := strings.Join(l, " ")
	want := api.ErrForm
	if isText(letters) {
		want = api.OK
	}
	if _, err := graph.Parse(source); err != want {
		t.Errorf("P5.2: Parse(%q): %d; want %d", source, err, want)
	}
}

// TestAllShortTexts: just the right ones of all short rows of pieces are texts.
func TestAllShortTexts(t *testing.T) {
	var all func(letters string, more int)
	all = func(letters string, more int) {
		checkForm(t, letters)
		if more > 0 {
			for letter := range pieces {
				all(letters+string(letter), more-1)
			}
		}
	}
	all("", 5)
}

// TestRandomTexts: rows of pieces that are texts, and such with one piece changed.
func TestRandomTexts(t *testing.T) {
	m := newMaker(1)
	const letters = "vmdrnf()[]|#"
	texts := 0
	for range 20000 {
		row := []byte(m.row(3))
		if isText(string(row)) {
			texts++
		}
		checkForm(t, string(row))
		i, letter := m.Intn(len(row)), letters[m.Intn(len(letters))]
		checkForm(t, string(row[:i])+string(row[i+1:]))
		checkForm(t, string(row[:i])+string(letter)+string(row[i:]))
		row[i] = letter
		checkForm(t, string(row))
	}
	if texts < 5000 {
		t.Errorf("only %d texts", texts)
	}
}

// row returns a row of pieces that is a text, but perhaps for its marks and features.
func (m maker) row(depth int) string {
	value := func() string { return m.row(depth - 1) }
	kind := m.Intn(7)
	if depth == 0 {
		kind = 0
	}
	switch kind {
	case 1:
		return "(" + value() + "|" + value() + ")"
	case 2:
		return "(" + value() + "#" + value() + ")"
	case 3:
		return "[" + value() + value() + "]"
	case 4:
		return "rn" + value() + "f" + value() + ")"
	case 5:
		return "rf" + value() + ")"
	case 6:
		return "d" + "[" + value() + "]"
	}
	if m.Intn(6) == 0 {
		return "m"
	}
	return "v"
}
