package store_test

import (
	"fmt"
	"math"
	"slices"
	"strings"
	"testing"

	"manystrand/api"
	"manystrand/domain"
	"manystrand/graph"
	"manystrand/store"
)

// parsed reads the text of a graph, in which the features 1, 2, .. of a label may be left out.
func parsed(text string) api.Graph {
	g, err := graph.Parse(featured(text))
	if err != api.OK {
		panic(text)
	}
	return g
}

// featured puts features in front of those parts of labels that have none.
func featured(text string) string {
	var b strings.Builder
	var counts []int // of the brackets that are open: how many parts there were, or, of a pair, a negative number
	isPart := false  // a part begins here
	for i, c := range text {
		top := len(counts) - 1
		if isPart && top >= 0 && counts[top] >= 0 {
			counts[top]++
			if end := strings.IndexAny(text[i:], " ():"); text[i+end] != ':' {
				fmt.Fprintf(&b, "%d:", counts[top])
			}
		}
		isPart = c == '(' || c == ' '
		switch {
		case c == ')':
			counts = counts[:top]
		case c == '(' && i > 0 && 'a' <= text[i-1] && text[i-1] <= 'z':
			counts = append(counts, 0)
		case c == '(' || c == '<' || c == '[':
			counts = append(counts, math.MinInt)
		case c == '>' || c == ']':
			counts = counts[:top]
		}
		b.WriteRune(c)
	}
	return b.String()
}

// dom reads the text of a domain; `0` alone is the number, `-` the empty domain.
func dom(text string) [][2]int {
	d, err := domain.Parse(text)
	if err != api.OK {
		panic(text)
	}
	return d
}

// making returns a store with variables, one after the other: `free`, `in 1#5`, or the text of a graph that
// is put, whose Root may be any of the new ones' first.
func making(t *testing.T, parts ...string) *store.Store {
	t.Helper()
	s := store.New()
	for _, part := range parts {
		if d, ok := strings.CutPrefix(part, "in "); ok {
			x, _ := s.Var()
			if _, err := s.Tell(x, dom(d)); err != api.OK {
				t.Fatalf("P8.2: Tell %s: %d", d, err)
			}
			continue
		}
		if part == "free" {
			s.Var()
			continue
		}
		if _, err := s.Put(parsed(part)); err != api.OK {
			t.Fatalf("P8.1: Put %s: %d", part, err)
		}
	}
	return s
}

// tell returns what a variable is: `=2` of a bound one (2 is it itself), `free`, a domain, an int, a thing, or
// a record with the numbers of its parts.
func tell(s *store.Store, x int) string {
	if itself := s.Itself(x); itself != x {
		return fmt.Sprint("=", itself)
	}
	n, _ := s.Node(x)
	switch kind := s.Kind(x); kind {
	case "free":
		return kind
	case "ranged":
		text, _ := domain.Text(s.Domain(x))
		return "in " + text
	case "int":
		return fmt.Sprint(n.N)
	case "rec":
		if len(n.Kids) == 0 {
			return n.Text
		}
		var parts []string
		for i, f := range n.Feats {
			parts = append(parts, fmt.Sprintf("%s:%d", strings.TrimPrefix(fmt.Sprint(f.N)+f.Text, "0"), n.Kids[i]))
		}
		return n.Text + "(" + strings.Join(parts, " ") + ")"
	default:
		return fmt.Sprintf("<%s %d>", kind, n.N)
	}
}

// told returns what all variables are, with semicolons between.
func told(s *store.Store) string {
	var l []string
	for x := 1; x <= s.Count(); x++ {
		l = append(l, tell(s, x))
	}
	return strings.Join(l, "; ")
}

// text returns the text of a variable's graph.
func text(t *testing.T, s *store.Store, x int) string {
	t.Helper()
	g, err := s.Graph(x)
	if err != api.OK {
		t.Fatalf("P8.3: Graph(%d): %d", x, err)
	}
	text, err := graph.Text(g)
	if err != api.OK {
		t.Fatalf("P8.3: Text of Graph(%d): %d", x, err)
	}
	return text
}

func TestVar(t *testing.T) {
	s := store.New()
	if s.Count() != 0 || s.Kind(1) != "" {
		t.Errorf("P8.1: a new store: %s", told(s))
	}
	for want := 1; want <= 3; want++ {
		if x, err := s.Var(); x != want || err != api.OK || s.Count() != want || s.Kind(x) != "free" {
			t.Errorf("P8.1: Var: %d, %d; %s", x, err, told(s))
		}
	}
}

func TestPut(t *testing.T) {
	for _, c := range []struct{ graph, want string }{
		{"5", "5"},
		{"~7", "-7"},
		{"a", "a"},
		{"<cell 3>", "<cell 3>"},
		{"f(1:a g:2)", "f(1:2 g:3); a; 2"},
		{"f(a a)", "f(1:2 2:2); a"},
		{"f(g(a) b)", "f(1:2 2:4); g(1:3); a; b"}, // in depth
		{"C1=(1|C1)", "|(1:2 2:1); 1"},
		{"C1=f(C2=g(C1 C2))", "f(1:2); g(1:1 2:2)"},
		{"[1 1]", "|(1:2 2:3); 1; |(1:2 2:4); nil"},
	} {
		s := store.New()
		if x, err := s.Put(parsed(c.graph)); x != 1 || err != api.OK || told(s) != c.want {
			t.Errorf("P8.1: Put %s: %d, %d; %s", c.graph, x, err, told(s))
		}
		if g, err := s.Graph(1); err != api.OK || !graph.Equal(g, parsed(c.graph)) {
			t.Errorf("P8.3: Graph of %s: %v, %d", c.graph, g, err)
		}
	}
}

func TestPutOfAnyForm(t *testing.T) {
	// The root stands last, two nodes are equal, one is not reached.
	g := api.Graph{Root: 4, Nodes: []api.Node{
		{Kind: "int", N: 1},
		{Kind: "var", N: 99},
		{Kind: "int", N: 1},
		{Kind: "var", N: 2},
		{Kind: "rec", Text: "f", Feats: []api.Feat{{N: 1}, {N: 2}, {Text: "a"}}, Kids: []int{3, 2, 0}},
	}}
	s := making(t, "free", "free")
	if x, err := s.Put(g); x != 3 || err != api.OK || told(s) != "free; free; f(1:2 2:4 a:4); 1" {
		t.Errorf("P8.1: Put of %v: %d, %d; %s", g, x, err, told(s))
	}
}

func TestPutWithVariables(t *testing.T) {
	s := making(t, "free", "free", "in 1#5")
	if x, err := s.Put(parsed("f(_2 _3 _2)")); x != 4 || err != api.OK || told(s) != "free; free; in 1#5; f(1:2 2:3 3:2)" {
		t.Errorf("P8.1: Put: %d, %d; %s", x, err, told(s))
	}
	s.Unify(2, 1)
	if x, err := s.Put(parsed("_2")); x != 2 || err != api.OK || s.Count() != 4 {
		t.Errorf("P8.1: Put of a variable that is bound: %d, %d", x, err)
	}
	if x, err := s.Put(parsed("g(_2)")); x != 5 || err != api.OK || tell(s, 5) != "g(1:1)" {
		t.Errorf("P8.1: Put with a variable that is bound: %d, %d; %s", x, err, told(s))
	}
	was := s.Copy()
	for _, text := range []string{"_6", "_7", "f(_1 _6)", "g(_999999999999999999)"} {
		if x, err := s.Put(parsed(text)); x != 0 || err != api.ErrArg || !store.Same(s, was) {
			t.Errorf("P8.1: Put %s: %d, %d; %s", text, x, err, told(s))
		}
	}
}

func TestPutOfNoGraph(t *testing.T) {
	for name, g := range map[string]api.Graph{
		"no node":                  {},
		"no root":                  {Root: 1, Nodes: []api.Node{{Kind: "int"}}},
		"no kind":                  {Nodes: []api.Node{{}}},
		"a variable 0":             {Nodes: []api.Node{{Kind: "var"}}},
		"a kid too much":           {Nodes: []api.Node{{Kind: "rec", Text: "a", Kids: []int{0}}}},
		"no sort":                  {Nodes: []api.Node{{Kind: "ref", Text: "thing", N: 1}}},
		"not valid, not reached":   {Nodes: []api.Node{{Kind: "int"}, {Kind: "int", N: api.MaxInt + 1}}},
		"too many nodes":           {Nodes: slices.Repeat([]api.Node{{Kind: "int"}}, api.MaxGraph+1)},
		"features that do descend": {Nodes: []api.Node{{Kind: "rec", Text: "a", Feats: []api.Feat{{N: 2}, {N: 1}}, Kids: []int{0, 0}}}},
	} {
		s := store.New()
		if x, err := s.Put(g); x != 0 || err != api.ErrArg || s.Count() != 0 {
			t.Errorf("P8.1: %s: %d, %d", name, x, err)
		}
	}
}

func TestMaxVars(t *testing.T) {
	s := store.New()
	for range api.MaxVars - 3 {
		s.Var()
	}
	if x, err := s.Put(parsed("f(a b c)")); x != 0 || err != api.ErrLimit || s.Count() != api.MaxVars-3 {
		t.Errorf("P8.1: Put beyond MaxVars: %d, %d, %d", x, err, s.Count())
	}
	if x, err := s.Put(parsed("f(a b c _1000000)")); x != 0 || err != api.ErrArg {
		t.Errorf("R2: Put beyond MaxVars with no variable: %d, %d", x, err)
	}
	if x, err := s.Put(parsed("f(a b a _1 _1)")); x != api.MaxVars-2 || err != api.OK || s.Count() != api.MaxVars {
		t.Errorf("P8.1: Put up to MaxVars: %d, %d, %d", x, err, s.Count())
	}
	if x, err := s.Var(); x != 0 || err != api.ErrLimit || s.Count() != api.MaxVars {
		t.Errorf("P8.1: Var beyond MaxVars: %d, %d", x, err)
	}
	if x, err := s.Put(parsed("a")); x != 0 || err != api.ErrLimit {
		t.Errorf("P8.1: Put beyond MaxVars: %d, %d", x, err)
	}
	if x, err := s.Put(parsed("_20000")); x != api.MaxVars || err != api.OK {
		t.Errorf("P8.1: Put of a variable makes none: %d, %d", x, err)
	}
}

// unifications: stores, as their variables are made; which two are unified; what follows.
var unifications = []struct {
	made    string
	x, y    int
	want    string // nothing: it fails
	touched string
	waits   string // of Entailed: `1`, `0`, or what it waits for
}{
	{"free; free", 1, 2, "free; =1", "[2]", "[2]"},
	{"free; free", 1, 1, "free; free", "[]", "1"},
	{"free; in 1#3", 1, 2, "=2; in 1#3", "[1]", "[1]"},
	{"in 1#3; free", 1, 2, "in 1#3; =1", "[2]", "[2]"},
	{"free; 5", 1, 2, "=2; 5", "[1]", "[1]"},
	{"5; free", 1, 2, "5; =1", "[2]", "[2]"},
	{"free; a", 1, 2, "=2; a", "[1]", "[1]"},
	{"f(<lock 1>); free", 1, 3, "f(1:2); <lock 1>; =1", "[3]", "[3]"},
	{"free; <proc 7>", 1, 2, "=2; <proc 7>", "[1]", "[1]"},
	{"in 1#3; 2", 1, 2, "=2; 2", "[1]", "[1]"},
	{"2; in 1#3", 1, 2, "2; =1", "[2]", "[2]"},
	{"in 1#3; 4", 1, 2, "", "", "0"},
	{"~1; in 1#3", 1, 2, "", "", "0"},
	{"in 1#3; a", 1, 2, "", "", "0"},
	{"in 1#3; <cell 2>", 1, 2, "", "", "0"},
	{"<cell 2>; in 1#3", 1, 2, "", "", "0"},
	{"in 1#3; in 2#5", 1, 2, "in 2#3; =1", "[1 2]", "[1 2]"},
	{"in 1#3; in 1#9", 1, 2, "in 1#3; =1", "[2]", "[2]"}, // the lesser one's domain is what it was
	{"in 1#9; in 1#3", 1, 2, "in 1#3; =1", "[1 2]", "[1 2]"},
	{"in 1#3; in 1#3", 1, 2, "in 1#3; =1", "[2]", "[2]"},
	{"in 1#3; in 3#5", 1, 2, "3; =1", "[1 2]", "[1 2]"},
	{"in 1#3; in 4#5", 1, 2, "", "", "0"},
	{"in 1 4 8#9; in 2#4 9", 1, 2, "in 4 9; =1", "[1 2]", "[1 2]"},
	{"7; 7", 1, 2, "7; =1", "[2]", "1"},
	{"7; 8", 1, 2, "", "", "0"},
	{"0; a", 1, 2, "", "", "0"},
	{"0; <cell 1>", 1, 2, "", "", "0"},
	{"a; a", 1, 2, "a; =1", "[2]", "1"},
	{"a; b", 1, 2, "", "", "0"},
	{"<cell 1>; <cell 1>", 1, 2, "<cell 1>; =1", "[2]", "1"},
	{"<cell 1>; <cell 2>", 1, 2, "", "", "0"},
	{"<cell 1>; <port 1>", 1, 2, "", "", "0"},
	{"cell; <cell 1>", 1, 2, "", "", "0"},
	{"f(a); f", 1, 3, "", "", "0"},
	{"f(1:a); f(2:a)", 1, 3, "", "", "0"},
	{"f(1:a); f(x:a)", 1, 3, "", "", "0"},
	{"f(a b); f(a)", 1, 4, "", "", "0"},
	{"f(a); g(a)", 1, 3, "", "", "0"},
	{"f(a); f(a)", 1, 3, "f(1:2); a; =1; =2", "[3 4]", "1"},
	{"f(a); f(b)", 1, 3, "", "", "0"},
	{"free; f(_1); f(_1)", 2, 3, "free; f(1:1); =2", "[3]", "1"},
	{"free; free; f(_1 _2); f(_2 _1)", 3, 4, "free; =1; f(1:1 2:1); =3", "[2 4]", "[2]"},
	{"free; f(_1 b); f(a c)", 2, 4, "", "", "0"}, // the first parts alone fit
	{"free; f(_1 _1); f(a b)", 2, 3, "", "", "0"},
	// Each part wholly, ahead of the next one: free ones are bound to what comes first.
	{"free; free; f(g(_1) _1); f(g(a) h)", 3, 5, "", "", "0"},
	{"free; f(g(_1) _1); f(g(h) h)", 2, 4, "=6; f(1:3 2:6); g(1:6); =2; =3; h", "[1 4 5]", "[1]"},
	{"free; free; free; f(_3 _2); f(_2 _1)", 4, 5, "free; =1; =1; f(1:1 2:1); =4", "[2 3 5]", "[2 3]"},
	{"free; a; a; f(_1 _1); f(_3 _2)", 4, 5, "=2; a; =2; f(1:2 2:2); =4", "[1 3 5]", "[1]"},
	{"free; in 1#5; in 2#9; f(_1 _1); f(_3 _2)", 4, 5, "=2; in 2#5; =2; f(1:2 2:2); =4", "[1 2 3 5]", "[1 2 3]"},
	{"free; in 1#5; in 5#9; f(_1 _1); f(_3 _2)", 4, 5, "=2; 5; =2; f(1:2 2:2); =4", "[1 2 3 5]", "[1 2 3]"},
	// Cyclic terms.
	{"C1=f(C1); C1=f(C1)", 1, 2, "f(1:1); =1", "[2]", "1"},
	{"C1=f(C1); C1=f(f(C1))", 1, 2, "f(1:1); =1", "[2]", "1"}, // the least graph has one node
	{"free; f(_1)", 1, 2, "=2; f(1:2)", "[1]", "[1]"},
	{"free; f(_1 a); free; f(_4 a)", 2, 5, "free; f(1:1 2:3); a; =1; =2; =3", "[4 5 6]", "[4]"},
	{"C1=f(C1 a); C1=f(C1 b)", 1, 3, "", "", "0"},
	{"C1=(1|(2|C1)); C1=(1|(2|C1))", 1, 5, "|(1:2 2:3); 1; |(1:4 2:1); 2; =1; =2; =3; =4", "[5 6 7 8]", "1"},
	{"C1=(1|(2|C1)); C1=(2|(1|C1))", 1, 5, "", "", "0"},
}

func TestUnify(t *testing.T) {
	for _, c := range unifications {
		made := making(t, strings.Split(c.made, "; ")...)
		for _, pair := range [][2]int{{c.x, c.y}, {c.y, c.x}} {
			s := made.Copy()
			touched, err := s.Unify(pair[0], pair[1])
			switch {
			case c.want == "" && (err != api.ErrFail || len(touched) > 0 || !store.Same(s, made)):
				t.Errorf("P8.2: %s: Unify%v: %v, %d; %s", c.made, pair, touched, err, told(s))
			case c.want != "" && (err != api.OK || told(s) != c.want || fmt.Sprint(touched) != c.touched):
				t.Errorf("P8.2: %s: Unify%v: %v, %d; %s", c.made, pair, touched, err, told(s))
			}
		}
	}
}

func TestEntailed(t *testing.T) {
	for _, c := range unifications {
		s := making(t, strings.Split(c.made, "; ")...)
		was := s.Copy()
		for _, pair := range [][2]int{{c.x, c.y}, {c.y, c.x}} {
			is, waits, err := s.Entailed(pair[0], pair[1])
			got := fmt.Sprint(is)
			if is == -1 {
				got = fmt.Sprint(waits)
			} else if len(waits) > 0 {
				t.Errorf("P8.4: %s: Entailed%v: %d waits for %v", c.made, pair, is, waits)
			}
			if err != api.OK || got != c.waits || !store.Same(s, was) {
				t.Errorf("P8.4: %s: Entailed%v: %d, %v, %d; %s", c.made, pair, is, waits, err, told(s))
			}
		}
	}
}

// TestChains: what is said of a variable is said of the one at the end of its chain.
func TestChains(t *testing.T) {
	s := making(t, "free", "free", "free", "free", "in 1#9")
	for _, pair := range [][2]int{{4, 3}, {3, 2}, {4, 5}} {
		if _, err := s.Unify(pair[0], pair[1]); err != api.OK {
			t.Fatalf("P8.2: Unify%v: %d", pair, err)
		}
	}
	if got := told(s); got != "free; =5; =5; =5; in 1#9" {
		t.Errorf("P8.2: %s", got)
	}
	if touched, err := s.Tell(4, dom("3#5")); fmt.Sprint(touched) != "[5]" || err != api.OK || tell(s, 5) != "in 3#5" {
		t.Errorf("P8.2: Tell of a bound one: %v, %d; %s", touched, err, told(s))
	}
	if touched, err := s.Unify(4, 1); fmt.Sprint(touched) != "[1]" || err != api.OK {
		t.Errorf("P8.2: Unify with a bound one: %v, %d", touched, err)
	}
	if touched, err := s.Unify(4, 2); len(touched) > 0 || err != api.OK {
		t.Errorf("P8.2: Unify of two that are one: %v, %d", touched, err)
	}
	if is, _, err := s.Entailed(3, 1); is != 1 || err != api.OK {
		t.Errorf("P8.4: Entailed of two that are one: %d, %d", is, err)
	}
	if kind, d := s.Kind(2), fmt.Sprint(s.Domain(3)); kind != "ranged" || d != "[[3 5]]" {
		t.Errorf("P8.3: of a bound one: %s, %s", kind, d)
	}
	if n, err := s.Node(4); n.Kind != "var" || n.N != 5 || err != api.OK {
		t.Errorf("P8.3: Node of a bound one: %v, %d", n, err)
	}
	if got := text(t, s, 4); got != "_5" {
		t.Errorf("P8.3: Graph of a bound one: %s", got)
	}
}

func TestTell(t *testing.T) {
	for _, c := range []struct{ made, domain, want, touched string }{
		{"free", "1#3", "in 1#3", "[1]"},
		{"free", "0#1000", "in 0#1000", "[1]"},
		{"free", "1 3", "in 1 3", "[1]"},
		{"free", "0", "0", "[1]"},
		{"free", "1000", "1000", "[1]"},
		{"free", "-", "", ""},
		{"in 1#5", "0#9", "in 1#5", "[]"},
		{"in 1#5", "1#5", "in 1#5", "[]"},
		{"in 1#5", "2#9", "in 2#5", "[1]"},
		{"in 1#5", "0 2 4 6", "in 2 4", "[1]"},
		{"in 1#5", "5#9", "5", "[1]"},
		{"in 1#5", "6#9", "", ""},
		{"in 1#5", "-", "", ""},
		{"5", "1#5", "5", "[]"},
		{"5", "5", "5", "[]"},
		{"5", "1#4 6", "", ""},
		{"5", "-", "", ""},
		{"~1", "0#1000", "", ""},
		{"1001", "0#1000", "", ""},
		{"a", "0#1000", "", ""},
		{"<cell 1>", "0#1000", "", ""},
		{"f(5)", "5", "", ""},
	} {
		s := making(t, c.made)
		was := s.Copy()
		touched, err := s.Tell(1, dom(c.domain))
		switch {
		case c.want == "" && (err != api.ErrFail || len(touched) > 0 || !store.Same(s, was)):
			t.Errorf("P8.2: %s: Tell %s: %v, %d; %s", c.made, c.domain, touched, err, told(s))
		case c.want != "" && (err != api.OK || told(s) != c.want || fmt.Sprint(touched) != c.touched):
			t.Errorf("P8.2: %s: Tell %s: %v, %d; %s", c.made, c.domain, touched, err, told(s))
		}
	}
}

func TestTellOfNoDomain(t *testing.T) {
	for _, made := range []string{"free", "in 1#5", "5", "a"} {
		for _, d := range [][][2]int{{{2, 1}}, {{-1, 3}}, {{5, 1001}}, {{1, 2}, {3, 4}}, {{5, 6}, {1, 2}}, {{math.MinInt, math.MaxInt}}} {
			s := making(t, made)
			was := s.Copy()
			if touched, err := s.Tell(1, d); err != api.ErrArg || len(touched) > 0 || !store.Same(s, was) {
				t.Errorf("P8.2: %s: Tell %v: %v, %d", made, d, touched, err)
			}
		}
	}
}

// TestNoVariable: numbers that are no variables.
func TestNoVariable(t *testing.T) {
	s := making(t, "free", "f(a)")
	was := s.Copy()
	for _, x := range []int{0, -1, 4, 5, math.MaxInt, math.MinInt} {
		_, e1 := s.Unify(x, 1)
		_, e2 := s.Unify(1, x)
		_, e3 := s.Unify(x, x)
		_, e4 := s.Tell(x, dom("1#2"))
		n, e5 := s.Node(x)
		g, e6 := s.Graph(x)
		is, waits, e7 := s.Entailed(x, 1)
		is2, waits2, e8 := s.Entailed(1, x)
		for i, err := range []api.Errno{e1, e2, e3, e4, e5, e6, e7, e8} {
			if err != api.ErrArg {
				t.Errorf("Errors: %d: call %d: %d", x, i+1, err)
			}
		}
		if n.Kind != "" || len(g.Nodes) > 0 || is != 0 || is2 != 0 || len(waits)+len(waits2) > 0 {
			t.Errorf("R2: %d: %v, %v, %d, %d", x, n, g, is, is2)
		}
		if s.Itself(x) != 0 || s.Kind(x) != "" || len(s.Domain(x)) > 0 {
			t.Errorf("P8.3: %d: %d, %s, %v", x, s.Itself(x), s.Kind(x), s.Domain(x))
		}
	}
	if !store.Same(s, was) {
		t.Errorf("R3: %s", told(s))
	}
}

func TestLooks(t *testing.T) {
	s := making(t, "free", "in 1#3 7", "~5", "0", "a", "f(_1 x:_2)", "<chunk 9>", "free")
	s.Unify(1, 8)
	for x, want := range []struct{ kind, domain, node string }{
		1: {"free", "[]", "{var 1  [] []}"},
		2: {"ranged", "[[1 3] [7 7]]", "{var 2  [] []}"},
		3: {"int", "[[-5 -5]]", "{int -5  [] []}"},
		4: {"int", "[[0 0]]", "{int 0  [] []}"},
		5: {"rec", "[]", "{rec 0 a [] []}"},
		6: {"rec", "[]", "{rec 0 f [{1 } {0 x}] [1 2]}"},
		7: {"chunk", "[]", "{ref 9 chunk [] []}"},
		8: {"free", "[]", "{var 1  [] []}"},
	} {
		if x == 0 {
			continue
		}
		n, err := s.Node(x)
		if s.Kind(x) != want.kind || fmt.Sprint(s.Domain(x)) != want.domain || fmt.Sprint(n) != want.node || err != api.OK {
			t.Errorf("P8.3: %d: %s, %v, %v, %d", x, s.Kind(x), s.Domain(x), n, err)
		}
	}
	s.Unify(1, 5)
	if n, _ := s.Node(6); fmt.Sprint(n.Kids) != "[5 2]" {
		t.Errorf("P8.3: the parts' variables themselves: %v", n.Kids)
	}
}

func TestGraph(t *testing.T) {
	s := making(t, "free", "free", "in 1#3", "f(_2 _3 _1 _2)", "a", "a", "g(_5 _6 1)")
	s.Unify(2, 1)
	for x, want := range map[int]string{1: "_1", 2: "_1", 3: "_3", 4: "f(1:_1 2:_3 3:_1 4:_1)", 7: "g(1:a 2:a 3:1)"} {
		if got := text(t, s, x); got != want {
			t.Errorf("P8.3: Graph(%d): %s", x, got)
		}
	}
	if g, _ := s.Graph(7); len(g.Nodes) != 3 {
		t.Errorf("P8.3: not the least graph: %v", g)
	}
	s.Tell(3, dom("2"))
	s.Unify(1, 4)
	if got := text(t, s, 4); got != "C1=f(1:C1 2:2 3:C1 4:C1)" {
		t.Errorf("P8.3: a cyclic one: %s", got)
	}
}
