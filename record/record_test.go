package record_test

import (
	"fmt"
	"reflect"
	"slices"
	"strconv"
	"strings"
	"testing"

	"manystrand/api"
	"manystrand/graph"
	"manystrand/record"
)

// parsed reads the text of a graph.
func parsed(text string) api.Graph {
	g, err := graph.Parse(text)
	if err != api.OK {
		panic(text)
	}
	return g
}

func all(texts ...string) (l []api.Graph) {
	for _, text := range texts {
		l = append(l, parsed(text))
	}
	return l
}

// feat reads a feature: digits are a number, all else is an atom.
func feat(text string) api.Feat {
	if n, err := strconv.Atoi(text); err == nil {
		return api.Feat{N: n}
	}
	return api.Feat{Text: text}
}

// feats reads features with blanks between.
func feats(text string) (l []api.Feat) {
	for _, word := range strings.Fields(text) {
		l = append(l, feat(word))
	}
	return l
}

// said returns a graph's text, or an error. A graph must be a least one.
func said(t *testing.T, g api.Graph, err api.Errno) string {
	t.Helper()
	if err != api.OK {
		if g.Root != 0 || g.Nodes != nil {
			t.Errorf("R2: a graph with the error %d: %v", err, g)
		}
		return fmt.Sprint(err)
	}
	least, err := graph.Least(g)
	if err != api.OK || !reflect.DeepEqual(least, g) {
		t.Errorf("P9.1: no least graph: %v", g)
	}
	text, _ := graph.Text(g)
	return text
}

// noGraph is a graph that is not valid.
var noGraph = api.Graph{Nodes: []api.Node{{Kind: "rec", Text: "f", Feats: feats("1"), Kids: []int{1}}}}

// Errors as said says them.
var (
	errArg   = fmt.Sprint(api.ErrArg)
	errForm  = fmt.Sprint(api.ErrForm)
	errLimit = fmt.Sprint(api.ErrLimit)
	errNone  = fmt.Sprint(api.ErrNone)
	errGraph = fmt.Sprint(api.ErrGraph)
)

// noRecords are graphs whose Root is no record.
var noRecords = []string{"5", "~1", "_1", "<name 1>", "<chunk 2>"}

// noFeats are no features.
var noFeats = []api.Feat{{N: -1}, {N: api.MaxFeat + 1}, {N: 1, Text: "a"}, {N: -1, Text: "a"}, {Text: "a\tb"}, {Text: "\x7f"}, {Text: strings.Repeat("a", api.MaxAtom+1)}}

// noLabels are texts that no label has.
var noLabels = []string{"a\tb", "\x00", "\x7f", "é", strings.Repeat("a", api.MaxAtom+1)}

func TestLook(t *testing.T) {
	for _, c := range []struct{ text, label, arity string }{
		{"a", "a", ""},
		{"''", "", ""},
		{"'A b'", "A b", ""},
		{"f(1:a)", "f", "1"},
		{"f(b:1 10:2 a:3 9:4 'A':5)", "f", "9 10 A a b"},
		{"(1|nil)", "|", "1 2"},
		{"(1#2#3)", "#", "1 2 3"},
		{"C1=f(1:C1 2:g(3:1))", "f", "1 2"},
		{strings.Repeat("a", api.MaxAtom) + "(1000:1)", strings.Repeat("a", api.MaxAtom), "1000"},
	} {
		g := parsed(c.text)
		if label, err := record.Label(g); label != c.label || err != api.OK {
			t.Errorf("P9.1: Label(%s): %q, %d", c.text, label, err)
		}
		if arity, err := record.Arity(g); !slices.Equal(arity, feats(c.arity)) || err != api.OK {
			t.Errorf("P9.1: Arity(%s): %v, %d", c.text, arity, err)
		}
		if width, err := record.Width(g); width != len(feats(c.arity)) || err != api.OK {
			t.Errorf("P9.1: Width(%s): %d, %d", c.text, width, err)
		}
	}
	for _, text := range noRecords {
		looks(t, parsed(text), api.ErrForm)
	}
	looks(t, noGraph, api.ErrGraph)
	looks(t, api.Graph{}, api.ErrGraph)
}

// looks holds the functions of a single graph against an error.
func looks(t *testing.T, g api.Graph, want api.Errno) {
	t.Helper()
	if label, err := record.Label(g); label != "" || err != want {
		t.Errorf("P9.1: Label(%v): %q, %d", g, label, err)
	}
	if arity, err := record.Arity(g); len(arity) > 0 || err != want {
		t.Errorf("P9.1: Arity(%v): %v, %d", g, arity, err)
	}
	if width, err := record.Width(g); width != 0 || err != want {
		t.Errorf("P9.1: Width(%v): %d, %d", g, width, err)
	}
	if parts, err := record.Parts(g); len(parts) > 0 || err != want {
		t.Errorf("P9.1: Parts(%v): %v, %d", g, parts, err)
	}
}

// TestNotReached: nodes that are not reached must be valid, too, and else do not matter.
func TestNotReached(t *testing.T) {
	f := api.Node{Kind: "rec", Text: "f", Feats: feats("1"), Kids: []int{1}}
	one := api.Node{Kind: "int", N: 1}
	g := api.Graph{Root: 2, Nodes: []api.Node{one, one, f, {Kind: "var", N: 7}}}
	for want, r := range map[string]func() (api.Graph, api.Errno){
		"1":          func() (api.Graph, api.Errno) { return record.Dot(g, feat("1")) },
		"f":          func() (api.Graph, api.Errno) { return record.Subtract(g, feat("1")) },
		"f(1:1 2:1)": func() (api.Graph, api.Errno) { return record.Adjoin(g, feat("2"), api.Graph{Root: 1, Nodes: g.Nodes}) },
	} {
		got, err := r()
		if text := said(t, got, err); text != want {
			t.Errorf("P9.1: %s instead of %s", text, want)
		}
	}
	g.Nodes[3].N = 0
	looks(t, g, api.ErrGraph)
}

func TestDot(t *testing.T) {
	for _, c := range []struct{ text, f, want string }{
		{"f(1:a b:2)", "1", "a"},
		{"f(1:a b:2)", "b", "2"},
		{"f(1:a b:2)", "2", errNone},
		{"f(1:a b:2)", "a", errNone},
		{"f(1:a b:g(b:h))", "b", "g(b:h)"},
		{"a", "1", errNone},
		{"[1 2]", "2", "[2]"},
		{"C1=f(1:C1 2:_7)", "1", "C1=f(1:C1 2:_7)"},
		{"C1=f(1:C1 2:_7)", "2", "_7"},
		{"f(1:C1=g(1:C1) 2:C1)", "2", "C1=g(1:C1)"},
		{"5", "1", errForm},
	} {
		got, err := record.Dot(parsed(c.text), feat(c.f))
		if text := said(t, got, err); text != c.want {
			t.Errorf("P9.1: Dot(%s, %s): %s", c.text, c.f, text)
		}
	}
}

func TestAdjoin(t *testing.T) {
	for _, c := range []struct{ text, f, v, want string }{
		{"a", "1", "2", "a(1:2)"},
		{"f(1:a b:2)", "1", "c", "f(1:c b:2)"},
		{"f(1:a b:2)", "2", "c", "f(1:a 2:c b:2)"},
		{"f(1:a b:2)", "a", "f(1:a b:2)", "f(1:a a:f(1:a b:2) b:2)"},
		{"f(9:1 b:2)", "10", "3", "f(9:1 10:3 b:2)"},
		{"f(9:1 b:2)", "a", "3", "f(9:1 a:3 b:2)"},
		{"f(9:1 b:2)", "c", "3", "f(9:1 b:2 c:3)"},
		{"f(1:_1)", "2", "_1", "f(1:_1 2:_1)"},
		{"f(1:_1)", "2", "g(1:_2 2:_1)", "f(1:_1 2:g(1:_2 2:_1))"},
		{"f(1:g(1:_1))", "2", "g(1:_1)", "f(1:C1=g(1:_1) 2:C1)"},
		{"C1=f(1:C1)", "1", "C1=f(1:C1)", "C1=f(1:C1)"},
		{"C1=f(1:C1)", "1", "a", "f(1:a)"},
		{"C1=f(1:C1)", "2", "a", "f(1:C1=f(1:C1) 2:a)"},
		{"(1|2)", "2", "[3]", "[1 3]"},
		{"[1 2]", "2", "_5", "(1|_5)"},
		{"'#'(1:a)", "2", "<cell 3>", "(a#<cell 3>)"},
		{"5", "1", "a", errForm},
	} {
		got, err := record.Adjoin(parsed(c.text), feat(c.f), parsed(c.v))
		if text := said(t, got, err); text != c.want {
			t.Errorf("P9.1: Adjoin(%s, %s, %s): %s", c.text, c.f, c.v, text)
		}
	}
}

func TestAdjoinAll(t *testing.T) {
	for _, c := range []struct{ g, h, want string }{
		{"a", "b", "b"},
		{"f(1:a)", "g", "g(1:a)"},
		{"f", "g(1:a)", "g(1:a)"},
		{"f(1:a 3:b)", "g(2:c 3:d)", "g(1:a 2:c 3:d)"},
		{"f(2:c 3:d)", "g(1:a 3:b)", "g(1:a 2:c 3:b)"},
		{"f(a:_1)", "f(b:_1 c:_2)", "f(a:_1 b:_1 c:_2)"},
		{"C1=f(1:C1)", "C1=f(1:C1)", "C1=f(1:C1)"},
		{"C1=f(1:C1)", "C1=f(2:C1)", "f(1:C1=f(1:C1) 2:C2=f(2:C2))"},
		{"f(1:C1=g(1:C1) 2:a)", "f(2:C1=g(1:C1))", "f(1:C1=g(1:C1) 2:C1)"},
		{"5", "a", errForm},
		{"a", "5", errForm},
	} {
		got, err := record.AdjoinAll(parsed(c.g), parsed(c.h))
		if text := said(t, got, err); text != c.want {
			t.Errorf("P9.1: AdjoinAll(%s, %s): %s", c.g, c.h, text)
		}
	}
}

func TestSubtract(t *testing.T) {
	for _, c := range []struct{ text, f, want string }{
		{"f(1:a b:2)", "1", "f(b:2)"},
		{"f(1:a b:2)", "b", "f(1:a)"},
		{"f(1:a b:2)", "2", errNone},
		{"f(1:a)", "1", "f"},
		{"f", "1", errNone},
		{"[1 2]", "2", "'|'(1:1)"},
		{"C1=f(1:C1 2:a)", "2", "f(1:C1=f(1:C1 2:a))"},
		{"C1=f(1:C1 2:a)", "1", "f(2:a)"},
		{"f(1:C1=g(1:C1) 2:C1)", "1", "f(2:C1=g(1:C1))"},
		{"_1", "1", errForm},
	} {
		got, err := record.Subtract(parsed(c.text), feat(c.f))
		if text := said(t, got, err); text != c.want {
			t.Errorf("P9.1: Subtract(%s, %s): %s", c.text, c.f, text)
		}
	}
}

func TestMake(t *testing.T) {
	for _, c := range []struct{ label, feats, want string }{
		{"f", "", "f"},
		{"", "", "''"},
		{"f", "1", "f(1:_1)"},
		{"f", "2 1", "f(1:_1 2:_2)"},
		{"f", "b 10 a 9", "f(9:_1 10:_2 a:_3 b:_4)"},
		{"A b", "1000", "'A b'(1000:_1)"},
		{"a\n'\\", "A ~", "'a\\n\\'\\\\'('A':_1 '~':_2)"},
		{"|", "2 1", "(_1|_2)"},
		{"f", "1 1", errArg},
		{"f", "b 1 a b", errArg},
		{"f", "-1", errArg},
		{"f", "1001", errArg},
		{strings.Repeat("a", api.MaxAtom), "1", strings.Repeat("a", api.MaxAtom) + "(1:_1)"},
	} {
		got, err := record.Make(c.label, feats(c.feats))
		if text := said(t, got, err); text != c.want {
			t.Errorf("P9.1: Make(%q, %s): %s", c.label, c.feats, text)
		}
	}
	for _, f := range noFeats {
		got, err := record.Make("f", []api.Feat{{N: 1}, f, {N: 2}})
		if text := said(t, got, err); text != errArg {
			t.Errorf("P9.1: Make with %v: %s", f, text)
		}
	}
	for _, label := range noLabels {
		got, err := record.Make(label, feats("1"))
		if text := said(t, got, err); text != errArg {
			t.Errorf("P9.1: Make(%q): %s", label, text)
		}
	}
}

func TestPartsTuple(t *testing.T) {
	for _, c := range []struct {
		text  string
		parts []string
	}{
		{"a", nil},
		{"f(b:1 10:2 9:3 a:4)", []string{"3", "2", "4", "1"}},
		{"[1 2]", []string{"1", "[2]"}},
		{"f(1:_5 2:g(1:_5 2:_3))", []string{"_5", "g(1:_5 2:_3)"}},
		{"C1=f(1:C1 2:g(1:C1))", []string{"C1=f(1:C1 2:g(1:C1))", "C1=g(1:C2=f(1:C2 2:C1))"}},
		{"f(1:C1=g(1:a) 2:C1)", []string{"g(1:a)", "g(1:a)"}},
	} {
		parts, err := record.Parts(parsed(c.text))
		var texts []string
		for _, part := range parts {
			texts = append(texts, said(t, part, api.OK))
		}
		if !slices.Equal(texts, c.parts) || err != api.OK {
			t.Errorf("P9.1: Parts(%s): %s, %d", c.text, texts, err)
		}
	}
	for _, c := range []struct {
		label string
		parts []string
		want  string
	}{
		{"a", nil, "a"},
		{"f", []string{"a"}, "f(1:a)"},
		{"#", []string{"1", "2", "1"}, "(1#2#1)"},
		{"|", []string{"1", "[2 3]"}, "[1 2 3]"},
		{"A", []string{"_2", "g(1:_2)", "_1"}, "'A'(1:_2 2:g(1:_2) 3:_1)"},
		{"f", []string{"C1=g(1:C1)", "g(1:C1=g(1:C1))"}, "f(1:C1=g(1:C1) 2:C1)"},
	} {
		got, err := record.Tuple(c.label, all(c.parts...))
		if text := said(t, got, err); text != c.want {
			t.Errorf("P9.1: Tuple(%s, %s): %s", c.label, c.parts, text)
		}
	}
	for _, label := range noLabels {
		got, err := record.Tuple(label, nil)
		if text := said(t, got, err); text != errArg {
			t.Errorf("P9.1: Tuple(%q): %s", label, text)
		}
	}
}
