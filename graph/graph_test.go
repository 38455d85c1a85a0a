package graph_test

import (
	"fmt"
	"reflect"
	"slices"
	"strings"
	"testing"

	"manystrand/api"
	"manystrand/graph"
)

// integer, atom, variable and thing are nodes without Kids.
func integer(n int) api.Node              { return api.Node{Kind: "int", N: n} }
func atom(text string) api.Node           { return api.Node{Kind: "rec", Text: text} }
func variable(n int) api.Node             { return api.Node{Kind: "var", N: n} }
func thing(sort string, n int) api.Node   { return api.Node{Kind: "ref", Text: sort, N: n} }
func of(nodes ...api.Node) api.Graph      { return api.Graph{Nodes: nodes} }
func pair(a, b int) api.Node              { return record("|", "1", a, "2", b) }
func number(n int) api.Feat               { return api.Feat{N: n} }
func named(text string) api.Feat          { return api.Feat{Text: text} }
func at(root int, g api.Graph) api.Graph  { return api.Graph{Root: root, Nodes: g.Nodes} }
func same(a, b api.Graph) bool            { return reflect.DeepEqual(a, b) }
func isZero(g api.Graph) bool             { return g.Root == 0 && len(g.Nodes) == 0 }
func text(g api.Graph) string             { s, _ := graph.Text(g); return s }
func show(l []api.Graph) (texts []string) { return each(l, text) }

func each[A, B any](l []A, f func(A) B) (m []B) {
	for _, x := range l {
		m = append(m, f(x))
	}
	return m
}

// record is a node with features (numbers as digits) and Kids in turn.
func record(label string, parts ...any) api.Node {
	n := api.Node{Kind: "rec", Text: label}
	for i := 0; i < len(parts); i += 2 {
		f := named(parts[i].(string))
		if k := 0; f.Text != "" && '0' <= f.Text[0] && f.Text[0] <= '9' {
			fmt.Sscan(f.Text, &k)
			f = number(k)
		}
		n.Feats = append(n.Feats, f)
		n.Kids = append(n.Kids, parts[i+1].(int))
	}
	return n
}

func parse(t *testing.T, text string) api.Graph {
	t.Helper()
	g, err := graph.Parse(text)
	if err != api.OK {
		t.Fatalf("P5.2: Parse(%q): %d", text, err)
	}
	return g
}

// manyNodes is a valid graph of n nodes, all of which are reached.
func manyNodes(n int) api.Graph {
	var g api.Graph
	for i := range n - 1 {
		g.Nodes = append(g.Nodes, record("f", "1", i+1))
	}
	g.Nodes = append(g.Nodes, atom("a"))
	return g
}

var longAtom = strings.Repeat("a", api.MaxAtom)

var validGraphs = map[string]api.Graph{
	"greatest int":       of(integer(api.MaxInt)),
	"least int":          of(integer(-api.MaxInt)),
	"zero":               of(integer(0)),
	"atom":               of(atom("a")),
	"empty atom":         of(atom("")),
	"key as an atom":     of(atom("if")),
	"atom of any bytes":  of(atom("A b\n'\\")),
	"longest atom":       of(atom(longAtom)),
	"record":             of(record("f", "1", 1, "1000", 1, "a", 0), integer(1)),
	"features in order":  of(record("f", "2", 1, "10", 1, "'", 1, "A", 1, "a", 0), integer(1)),
	"greatest variable":  of(variable(api.MaxInt)),
	"one variable twice": of(record("f", "1", 1, "2", 2), variable(1), variable(1)),
	"other root":         at(1, of(integer(1), atom("a"))),
	"empty slices":       of(api.Node{Kind: "int", Feats: []api.Feat{}, Kids: []int{}}),
	"not reached":        of(integer(1), record("f", "1", 0)),
	"most nodes":         manyNodes(api.MaxGraph),
	"own part":           of(record("f", "1", 0)),
}

var invalidGraphs = map[string]api.Graph{
	"nothing":                 {},
	"no kind":                 of(api.Node{}),
	"other kind":              of(api.Node{Kind: "text"}),
	"root below 0":            at(-1, of(integer(1))),
	"root beyond":             at(1, of(integer(1))),
	"too many nodes":          manyNodes(api.MaxGraph + 1),
	"int too great":           of(integer(api.MaxInt + 1)),
	"int too small":           of(integer(-api.MaxInt - 1)),
	"int with text":           of(api.Node{Kind: "int", Text: "1"}),
	"int with feature":        of(api.Node{Kind: "int", Feats: []api.Feat{{N: 1}}}),
	"int with kid":            of(api.Node{Kind: "int", Kids: []int{0}}),
	"int with part":           of(api.Node{Kind: "int", Feats: []api.Feat{{N: 1}}, Kids: []int{0}}),
	"record with number":      of(api.Node{Kind: "rec", Text: "a", N: 1}),
	"label too long":          of(atom(longAtom + "a")),
	"label with a bad byte":   of(atom("a\tb")),
	"label beyond ASCII":      of(atom("ä")),
	"fewer kids":              of(api.Node{Kind: "rec", Text: "f", Feats: []api.Feat{{N: 1}}}),
	"fewer features":          of(api.Node{Kind: "rec", Text: "f", Kids: []int{0}}),
	"feature 0":               of(api.Node{Kind: "rec", Text: "f", Feats: []api.Feat{{N: -1}}, Kids: []int{0}}),
	"feature too great":       of(record("f", "1001", 0)),
	"feature of both":         of(api.Node{Kind: "rec", Text: "f", Feats: []api.Feat{{N: 1, Text: "a"}}, Kids: []int{0}}),
	"feature no atom":         of(record("f", "\t", 0)),
	"features twice":          of(record("f", "a", 0, "a", 0)),
	"features descend":        of(record("f", "2", 0, "1", 0)),
	"atom ahead of a number":  of(record("f", "a", 0, "1", 0)),
	"kid below 0":             of(record("f", "1", -1)),
	"kid beyond":              of(record("f", "1", 1)),
	"variable 0":              of(variable(0)),
	"variable below 0":        of(variable(-1)),
	"variable too great":      of(variable(api.MaxInt + 1)),
	"variable with text":      of(api.Node{Kind: "var", N: 1, Text: "X"}),
	"variable with part":      of(api.Node{Kind: "var", N: 1, Feats: []api.Feat{{N: 1}}, Kids: []int{0}}),
	"thing 0":                 of(thing("cell", 0)),
	"thing too great":         of(thing("cell", api.MaxInt+1)),
	"other sort":              of(thing("thing", 1)),
	"no sort":                 of(thing("", 1)),
	"thing with part":         of(api.Node{Kind: "ref", Text: "cell", N: 1, Feats: []api.Feat{{N: 1}}, Kids: []int{0}}),
	"not reached, not valid":  of(integer(1), variable(0)),
	"not reached, kid beyond": of(integer(1), record("f", "1", 2)),
}

// sorts are those of things.
var sorts = []string{"name", "proc", "cell", "port", "lock", "dict", "array", "chunk", "space", "dead"}

func TestValid(t *testing.T) {
	for name, g := range validGraphs {
		if !graph.Valid(g) {
			t.Errorf("P5.1: %s is not valid", name)
		}
		if l, err := graph.Least(g); err != api.OK || !graph.Valid(l) {
			t.Errorf("P5.1: Least of %s: %d", name, err)
		}
	}
	for _, sort := range sorts {
		if !graph.Valid(of(thing(sort, api.MaxInt))) {
			t.Errorf("P5.1: a %s is not valid", sort)
		}
	}
	for name, g := range invalidGraphs {
		if graph.Valid(g) {
			t.Errorf("P5.1: %s is valid", name)
		}
	}
}

// TestErrGraph: of what is not valid all functions answer ErrGraph, or false.
func TestErrGraph(t *testing.T) {
	good := of(atom("nil"))
	for name, g := range invalidGraphs {
		least, e1 := graph.Least(g)
		s, e2 := graph.Text(g)
		part, e3 := graph.At(g, []api.Feat{{N: 1}})
		vars, e4 := graph.Vars(g)
		things, e5 := graph.Things(g)
		depth, e6 := graph.Depth(g)
		order1, e7 := graph.Compare(g, good)
		order2, e8 := graph.Compare(good, g)
		fresh, e9 := graph.Fresh(g)
		list, e10 := graph.List([]api.Graph{good, g})
		items, e11 := graph.Items(g)
		for i, err := range []api.Errno{e1, e2, e3, e4, e5, e6, e7, e8, e9, e10, e11} {
			if err != api.ErrGraph {
				t.Errorf("P5.1: %s: function %d: %d", name, i+1, err)
			}
		}
		if !isZero(least) || s != "" || !isZero(part) || vars != nil || things != nil || depth != 0 ||
			order1 != 0 || order2 != 0 || !isZero(fresh) || !isZero(list) || items != nil {
			t.Errorf("P5.1: %s: a result beside the error", name)
		}
		if graph.Equal(g, g) || graph.Equal(g, good) || graph.Equal(good, g) || graph.Cyclic(g) {
			t.Errorf("P5.1: %s is equal to something, or cyclic", name)
		}
	}
	// A graph that is not valid comes ahead of too long a list.
	many := make([]api.Graph, api.MaxGraph+1)
	for i := range many {
		many[i] = good
	}
	many[api.MaxGraph] = api.Graph{}
	if _, err := graph.List(many); err != api.ErrGraph {
		t.Errorf("P5.1: List: %d", err)
	}
}

func TestEqual(t *testing.T) {
	for _, c := range []struct {
		a, b string
		want bool
	}{
		{"1", "1", true}, {"1", "2", false}, {"1", "~1", false}, {"a", "a", true}, {"a", "b", false},
		{"1", "_1", false}, {"_1", "_1", true}, {"_1", "_2", false}, {"<cell 1>", "<cell 1>", true},
		{"<cell 1>", "<cell 2>", false}, {"<cell 1>", "<port 1>", false}, {"a", "a(1:1)", false},
		{"a(1:1)", "a(2:1)", false}, {"a(1:1)", "a(1:1 2:1)", false}, {"a(1:1 b:2)", "a(b:2 1:1)", true},
		{"C1=(1|C1)", "(1|C1=(1|C1))", true}, {"C1=(1|C1)", "C1=(1|(1|C1))", true},
		{"C1=(1|C1)", "C1=(1|(2|C1))", false}, {"C1=(1|(1|C1))", "C1=(1|(1|(1|C1)))", true},
		{"f(1:C1=(1|C1) 2:C1)", "f(1:C1=(1|C1) 2:C2=(1|(1|C2)))", true}, {"[1 2]", "(1|(2|nil))", true},
		{"f(1:a(1:1) 2:a(1:1))", "f(1:C1=a(1:1) 2:C1)", true}, {"f(1:_1 2:_1)", "f(1:_1 2:_2)", false},
	} {
		a, b := parse(t, c.a), parse(t, c.b)
		if graph.Equal(a, b) != c.want || graph.Equal(b, a) != c.want {
			t.Errorf("P5.1: Equal(%s, %s) is not %t", c.a, c.b, c.want)
		}
	}
	// Only what is reached from the Roots counts.
	if !graph.Equal(at(1, of(integer(1), atom("a"))), of(atom("a"), variable(7))) {
		t.Error("P5.1: what is not reached counts for Equal")
	}
}

// TestLeast: what is joined, what is left out, and the numbers.
func TestLeast(t *testing.T) {
	for name, c := range map[string]struct{ g, want api.Graph }{
		"own tail":     {of(pair(1, 2), integer(1), pair(3, 0), integer(1)), of(pair(1, 0), integer(1))},
		"[1 1]":        {of(pair(1, 2), integer(1), pair(3, 4), integer(1), atom("nil")), of(pair(1, 2), integer(1), pair(1, 3), atom("nil"))},
		"not reached":  {at(2, of(integer(1), pair(0, 1), atom("a"))), of(atom("a"))},
		"in depth":     {of(record("f", "1", 2, "2", 1), integer(1), record("g", "1", 3), integer(2)), of(record("f", "1", 1, "2", 3), record("g", "1", 2), integer(2), integer(1))},
		"one variable": {of(record("f", "1", 1, "2", 2, "3", 3), variable(5), variable(5), variable(4)), of(record("f", "1", 1, "2", 1, "3", 2), variable(5), variable(4))},
		"one thing":    {of(record("f", "1", 1, "2", 2, "3", 3), thing("cell", 5), thing("cell", 5), thing("port", 5)), of(record("f", "1", 1, "2", 1, "3", 2), thing("cell", 5), thing("port", 5))},
		"two cycles":   {of(record("f", "1", 1, "2", 2), record("g", "1", 2), record("g", "1", 1)), of(record("f", "1", 1, "2", 1), record("g", "1", 1))},
		"one in other": {of(record("g", "1", 1), record("g", "1", 1)), of(record("g", "1", 0))},
	} {
		if l, err := graph.Least(c.g); err != api.OK || !same(l, c.want) {
			t.Errorf("P5.1: Least of %s: %v, %d", name, l, err)
		}
	}
}

func TestText(t *testing.T) {
	for want, g := range map[string]api.Graph{
		"0":                       of(integer(0)),
		"~7":                      of(integer(-7)),
		"999999999999999999":      of(integer(api.MaxInt)),
		"~999999999999999999":     of(integer(-api.MaxInt)),
		"a":                       of(atom("a")),
		"'A'":                     of(atom("A")),
		"''":                      of(atom("")),
		"'if'":                    of(atom("if")),
		`'a\'\\\n'`:               of(atom("a'\\\n")),
		"'|'":                     of(atom("|")),
		"nil":                     of(atom("nil")),
		"_3":                      of(variable(3)),
		"<cell 3>":                of(thing("cell", 3)),
		"<proc 1>":                of(thing("proc", 1)),
		"f(1:1)":                  of(record("f", "1", 1), integer(1)),
		"'F'(2:1 'a b':1 b:~2)":   of(record("F", "2", 1, "a b", 1, "b", 2), integer(1), integer(-2)),
		"nil(1:1)":                of(record("nil", "1", 1), integer(1)),
		"(1|2)":                   of(pair(1, 2), integer(1), integer(2)),
		"(1|(1|2))":               of(pair(1, 3), integer(1), integer(2), pair(1, 2)),
		"[1]":                     of(pair(1, 2), integer(1), atom("nil")),
		"[1 1]":                   of(pair(1, 3), integer(1), atom("nil"), pair(1, 2)),
		"[nil nil]":               of(pair(1, 2), atom("nil"), pair(1, 1)),
		"[[1] 2]":                 of(pair(1, 3), pair(2, 4), integer(1), pair(5, 4), atom("nil"), integer(2)),
		"'|'(1:1)":                of(record("|", "1", 1), integer(1)),
		"'|'(1:1 3:1)":            of(record("|", "1", 1, "3", 1), integer(1)),
		"'|'(1:1 2:1 3:1)":        of(record("|", "1", 1, "2", 1, "3", 1), integer(1)),
		"'|'(1:1 a:1)":            of(record("|", "1", 1, "a", 1), integer(1)),
		"(1|'|'(1:1 3:nil))":      of(pair(1, 2), integer(1), record("|", "1", 1, "3", 3), atom("nil")),
		"(1#1)":                   of(record("#", "1", 1, "2", 1), integer(1)),
		"(1#a#1)":                 of(record("#", "1", 1, "2", 2, "3", 1), integer(1), atom("a")),
		"((1#1)#1)":               of(record("#", "1", 1, "2", 2), record("#", "1", 2, "2", 2), integer(1)),
		"'#'(1:1)":                of(record("#", "1", 1), integer(1)),
		"'#'(1:1 3:1)":            of(record("#", "1", 1, "3", 1), integer(1)),
		"'#'(1:1 2:1 a:1)":        of(record("#", "1", 1, "2", 1, "a", 1), integer(1)),
		"'#'":                     of(atom("#")),
		"C1=(1|C1)":               of(pair(1, 0), integer(1)),
		"C1=f(1:C1)":              of(record("f", "1", 0)),
		"f(1:C1=g(1:1) 2:C1)":     of(record("f", "1", 1, "2", 3), record("g", "1", 2), integer(1), record("g", "1", 2)),
		"f(1:C1=[1] 2:C1)":        of(record("f", "1", 1, "2", 1), pair(2, 3), integer(1), atom("nil")),
		"f(1:C1=(1#1) 2:C1)":      of(record("f", "1", 1, "2", 1), record("#", "1", 2, "2", 2), integer(1)),
		"f(1:(1|C1=[2]) 2:C1)":    of(record("f", "1", 1, "2", 4), pair(2, 4), integer(1), integer(2), pair(3, 5), atom("nil")),
		"f(1:C1=[2] 2:(1|C1))":    of(record("f", "1", 4, "2", 1), pair(2, 4), integer(1), integer(2), pair(3, 5), atom("nil")),
		"f(1:C1=[1 2] 2:C1)":      of(record("f", "1", 1, "2", 1), pair(2, 3), integer(1), pair(4, 5), integer(2), atom("nil")),
		"[C1=[1] C1]":             of(pair(1, 4), pair(2, 3), integer(1), atom("nil"), pair(1, 3)),
		"(C1=[1]|C1)":             of(pair(1, 1), pair(2, 3), integer(1), atom("nil")),
		"C1=f(1:C2=g(1:C1 2:C2))": of(record("f", "1", 1), record("g", "1", 0, "2", 1)),
		"C1=[C1]":                 of(pair(0, 1), atom("nil")),
		"C1=(C1#1)":               of(record("#", "1", 0, "2", 1), integer(1)),
		"f(1:_2 2:<name 1> 3:_2)": of(record("f", "1", 1, "2", 2, "3", 1), variable(2), thing("name", 1)),
		"(1|C1=(2|(3|C1)))":       of(pair(4, 1), pair(5, 2), pair(6, 1), atom("x"), integer(1), integer(2), integer(3)),
	} {
		s, err := graph.Text(g)
		if err != api.OK || s != want {
			t.Errorf("P5.1: Text: %q, %d; want %q", s, err, want)
		}
	}
}

func TestAt(t *testing.T) {
	for _, c := range []struct {
		g    string
		path []api.Feat
		want string
	}{
		{"1", nil, "1"},
		{"f(1:a x:g(2:b))", nil, "f(1:a x:g(2:b))"},
		{"f(1:a x:g(2:b))", []api.Feat{number(1)}, "a"},
		{"f(1:a x:g(2:b))", []api.Feat{named("x")}, "g(2:b)"},
		{"f(1:a x:g(2:b))", []api.Feat{named("x"), number(2)}, "b"},
		{"C1=(1|C1)", []api.Feat{number(2), number(2), number(2)}, "C1=(1|C1)"},
		{"C1=(1|(2|C1))", []api.Feat{number(2)}, "C1=(2|(1|C1))"},
		{"[1 2 3]", []api.Feat{number(2), number(2)}, "[3]"},
		{"f('':a)", []api.Feat{named("")}, "a"},
	} {
		if g, err := graph.At(parse(t, c.g), c.path); err != api.OK || text(g) != c.want || !same(g, parse(t, c.want)) {
			t.Errorf("P5.1: At(%s, %v): %s, %d", c.g, c.path, text(g), err)
		}
	}
	for _, path := range [][]api.Feat{
		{number(2)}, {named("y")}, {number(1), number(1)}, {named("1")}, {number(0)}, {number(-1)},
		{{N: 1, Text: "x"}}, {number(1001)}, {named("x"), number(2), number(2)}, {named("\t")},
	} {
		if g, err := graph.At(parse(t, "f(1:a x:g(2:b))"), path); err != api.ErrNone || !isZero(g) {
			t.Errorf("P5.1: At(%v): %v, %d", path, g, err)
		}
	}
}

// twisted is a graph in which one comes to the variable 1 first, if one goes down without joining what
// is equal, but in whose least graph one comes to 2 first.
func twisted() api.Graph {
	return of(record("p", "1", 1, "2", 4), record("q", "1", 2, "2", 3), record("p", "1", 1, "2", 4), variable(2), variable(1))
}

func TestVarsAndThings(t *testing.T) {
	for g, want := range map[string][]int{
		"1": nil, "_7": {7}, "f(1:_3 2:g(1:_1) a:_3 b:_2)": {3, 1, 2}, "[_5 a _4 _5]": {5, 4}, "C1=(_1|(C1|_2))": {1, 2},
	} {
		if l, err := graph.Vars(parse(t, g)); err != api.OK || !slices.Equal(l, want) {
			t.Errorf("P5.1: Vars(%s): %v, %d", g, l, err)
		}
	}
	if l, _ := graph.Vars(of(integer(1), variable(1))); len(l) != 0 {
		t.Errorf("P5.1: Vars of what is not reached: %v", l)
	}
	if l, _ := graph.Vars(twisted()); !slices.Equal(l, []int{2, 1}) {
		t.Errorf("P5.1: Vars counts places that are joined: %v", l)
	}
	for g, want := range map[string][]api.Node{
		"_1":       nil,
		"<proc 2>": {thing("proc", 2)},
		"f(1:<cell 3> 2:g(1:<cell 1>) a:<cell 3> b:<port 1>)": {thing("cell", 3), thing("cell", 1), thing("port", 1)},
	} {
		if l, err := graph.Things(parse(t, g)); err != api.OK || !reflect.DeepEqual(l, want) {
			t.Errorf("P5.1: Things(%s): %v, %d", g, l, err)
		}
	}
	g := twisted()
	g.Nodes[3], g.Nodes[4] = thing("cell", 2), thing("cell", 1)
	if l, _ := graph.Things(g); !reflect.DeepEqual(l, []api.Node{thing("cell", 2), thing("cell", 1)}) {
		t.Errorf("P5.1: Things counts places that are joined: %v", l)
	}
}

func TestCyclicAndDepth(t *testing.T) {
	for g, want := range map[string]int{
		"1": 1, "a": 1, "_1": 1, "<cell 1>": 1, "f(1:1)": 2, "[1 2 3]": 4, "f(1:1 2:g(1:h(1:1)) 3:1)": 4,
		"f(1:C1=g(1:1) 2:h(1:C1))": 4, "C1=f(1:C1)": 0, "f(1:1 2:C1=g(1:h(1:C1)))": 0, "(C1=(1|C1)|2)": 0,
	} {
		wantErr := api.OK
		if want == 0 {
			wantErr = api.ErrLimit
		}
		if n, err := graph.Depth(parse(t, g)); n != want || err != wantErr {
			t.Errorf("P5.1: Depth(%s): %d, %d", g, n, err)
		}
		if graph.Cyclic(parse(t, g)) != (want == 0) {
			t.Errorf("P5.1: Cyclic(%s) is %t", g, want != 0)
		}
	}
	// Cycles that are not reached do not count.
	g := of(integer(1), record("f", "1", 1))
	if n, err := graph.Depth(g); n != 1 || err != api.OK || graph.Cyclic(g) {
		t.Errorf("P5.1: Depth beside a cycle: %d, %d", n, err)
	}
	if n, err := graph.Depth(manyNodes(api.MaxGraph)); n != api.MaxGraph || err != api.OK {
		t.Errorf("P5.1: Depth of the longest way: %d, %d", n, err)
	}
	// Ways down of a graph that joins are more than one could count.
	double := manyNodes(60)
	for i := range 59 {
		double.Nodes[i] = record("f", "1", i+1, "2", i+1)
	}
	if n, err := graph.Depth(double); n != 60 || err != api.OK {
		t.Errorf("P5.1: Depth of a graph that joins: %d, %d", n, err)
	}
}

// TestCompare: a list in ascending order.
func TestCompare(t *testing.T) {
	order := []string{
		"~999999999999999999", "~1", "0", "2", "10", "''", "'A'", "'B'(1:1)", "a", "a(1:1)", "a(1:2)", "a(1:b)",
		"a(1:g(1:1))", "a(1:_1)", "a(1:<cell 1>)", "a(2:1)", "a(10:1)", "a('A':1)", "a(b:1)", "a(1:1 2:1)",
		// The first parts differ deeper than the second ones do.
		"a(1:f(1:2) 2:1)", "a(1:f(1:1) 2:2)", "a(1:f(1:1) 2:f(1:1))", "a(1:f(1:1) 2:f(1:2))", "a(1:f(1:2) 2:f(1:1))",
		"a(1:1 3:1)", "a(1:1 b:0)", "a(1:1 2:1 3:1)", "aa", "b", "_1", "_2", "_10",
		"<array 9>", "<cell 1>", "<cell 2>", "<cell 10>", "<space 1>",
	}
	for i, a := range order {
		for j, b := range order {
			want := min(1, max(-1, i-j))
			if got, err := graph.Compare(parse(t, a), parse(t, b)); got != want || err != api.OK {
				t.Errorf("P5.3: Compare(%s, %s): %d, %d", a, b, got, err)
			}
		}
	}
	for _, c := range [][2]string{
		{"C1=(1|C1)", "C1=(1|(1|(1|C1)))"}, {"(1|C1=(2|(1|C1)))", "C1=(1|(2|C1))"}, {"_1", "_1"}, {"[1 2]", "[1 2]"},
	} {
		if got, err := graph.Compare(parse(t, c[0]), parse(t, c[1])); got != 0 || err != api.OK {
			t.Errorf("P5.3: Compare(%s, %s): %d, %d", c[0], c[1], got, err)
		}
	}
	for _, c := range [][2]string{
		{"C1=(1|C1)", "C1=(1|(2|C1))"}, {"(1|(1|(1|(1|(1|1)))))", "C1=(1|(1|(1|(1|C1))))"},
		{"(1|(1|(1|2)))", "C1=(1|(1|C1))"}, {"C1=(1|(1|(1|C1)))", "(1|(1|(2|(0|nil))))"},
	} {
		got, _ := graph.Compare(parse(t, c[0]), parse(t, c[1]))
		back, _ := graph.Compare(parse(t, c[1]), parse(t, c[0]))
		if got != -1 || back != 1 {
			t.Errorf("P5.3: Compare(%s, %s): %d, back %d", c[0], c[1], got, back)
		}
	}
}

func TestFresh(t *testing.T) {
	for g, want := range map[string]string{
		"1": "1", "_7": "_1", "f(1:_3 2:g(1:_1) a:_3 b:_2)": "f(1:_1 2:g(1:_2) a:_1 b:_3)",
		"(_2|_1)": "(_1|_2)", "C1=(_5|C1)": "C1=(_1|C1)", "f(1:<cell 7> 2:_999999999999999999)": "f(1:<cell 7> 2:_1)",
	} {
		if f, err := graph.Fresh(parse(t, g)); err != api.OK || !same(f, parse(t, want)) {
			t.Errorf("P5.3: Fresh(%s): %s, %d", g, text(f), err)
		}
	}
	if f, _ := graph.Fresh(twisted()); text(f) != "C1=p(1:q(1:C1 2:_1) 2:_2)" {
		t.Errorf("P5.3: Fresh counts places that are joined: %s", text(f))
	}
}

func TestListAndItems(t *testing.T) {
	for want, items := range map[string][]string{
		"nil": nil, "[1]": {"1"}, "[1 1 a]": {"1", "1", "a"}, "[_1 _2 f(1:_1)]": {"_1", "_2", "f(1:_1)"},
		"[C1=(1|C1) C1 a]": {"C1=(1|C1)", "C1=(1|(1|C1))", "a"}, "[C1=[1] C1 nil]": {"[1]", "[1]", "nil"},
		"[[1] C1=(2|C2=[3]) C1 C2]": {"[1]", "[2 3]", "[2 3]", "[3]"},
		"[(<cell 1>#_1) <cell 1>]":  {"(<cell 1>#_1)", "<cell 1>"}, "[C1=[b c] (a|C1)]": {"[b c]", "[a b c]"},
	} {
		g, err := graph.List(each(items, func(s string) api.Graph { return parse(t, s) }))
		if err != api.OK || text(g) != want || !same(g, parse(t, want)) {
			t.Errorf("P5.3: List(%q): %s, %d; want %s", items, text(g), err, want)
		}
		l, err := graph.Items(g)
		if err != api.OK || !slices.Equal(show(l), each(items, func(s string) string { return text(parse(t, s)) })) {
			t.Errorf("P5.3: Items(%s): %q, %d", want, show(l), err)
		}
		for _, item := range l {
			if least, _ := graph.Least(item); !same(item, least) {
				t.Errorf("P5.3: Items(%s): %v is not least", want, item)
			}
		}
	}
	// The rest of a list is the rest of another one, and its item.
	shared := parse(t, "f(1:C1=[a b] 2:(C1|C1))")
	g, _ := graph.At(shared, []api.Feat{number(2)})
	if l, err := graph.Items(g); err != api.OK || !slices.Equal(show(l), []string{"[a b]", "a", "b"}) {
		t.Errorf("P5.3: Items(%s): %q, %d", text(g), show(l), err)
	}
	for _, g := range []string{
		"1", "a", "_1", "<cell 1>", "(1|2)", "(1|_1)", "C1=(1|C1)", "(1|C1=(2|C1))", "nil(1:1)", "'|'(1:1)",
		"'|'(1:1 2:nil 3:1)", "(1|'|'(1:1 3:nil))", "(1#nil)", "(1|nil(1:1))", "cons(1:1 2:nil)", "'|'",
	} {
		if l, err := graph.Items(parse(t, g)); err != api.ErrNone || l != nil {
			t.Errorf("P5.3: Items(%s): %q, %d", g, show(l), err)
		}
	}
}

// TestListLimit: the least graph counts.
func TestListLimit(t *testing.T) {
	list := func(n int, items ...api.Graph) (api.Graph, api.Errno) {
		l := make([]api.Graph, n)
		for i := range l {
			l[i] = items[i%len(items)]
		}
		return graph.List(l)
	}
	null, one, many := of(atom("nil")), of(integer(1)), manyNodes(api.MaxGraph-4)
	for i, c := range []struct {
		n     int
		items []api.Graph
		want  int // nodes
	}{
		{999, []api.Graph{null}, 1000}, {1000, []api.Graph{null}, 0}, {1001, []api.Graph{null}, 0},
		{998, []api.Graph{one}, 1000}, {999, []api.Graph{one}, 0}, {997, []api.Graph{one, of(integer(2))}, 1000},
		{998, []api.Graph{one, of(integer(2))}, 0}, {3, []api.Graph{many}, 1000}, {4, []api.Graph{many}, 0},
	} {
		g, err := list(c.n, c.items...)
		if len(g.Nodes) != c.want || (err == api.OK) != (c.want > 0) || (err == api.ErrLimit) != (c.want == 0) {
			t.Errorf("P5.3: List %d: %d nodes, %d", i, len(g.Nodes), err)
		}
		if l, _ := graph.Items(g); err == api.OK && len(l) != c.n {
			t.Errorf("P5.3: Items of List %d: %d", i, len(l))
		}
	}
}
