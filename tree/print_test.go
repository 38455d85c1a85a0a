package tree_test

import (
	"slices"
	"strconv"
	"strings"
	"testing"

	"manystrand/api"
	"manystrand/tree"
)

func mustParse(t *testing.T, text string) api.Tree {
	t.Helper()
	got, err := tree.Parse(text)
	if err != api.OK {
		t.Fatalf("P2.1: Parse(%q): %d", text, err)
	}
	return got
}

func TestPrint(t *testing.T) {
	for _, c := range [][2]string{
		{"X", "X"}, {"'a'", "a"}, {"'if'", "'if'"}, {"''", "''"}, {`'\n\'\\'`, `'\n\'\\'`}, {"~5", "~5"}, {"0", "0"}, {`"a\"\n\\"`, `"a\"\n\\"`}, {"&a", "97"}, {"_", "_"}, {"skip", "skip"},
		{"l(X)", "l(1:X)"}, {"l(f:X 2:Y)", "l(2:Y f:X)"}, {"l(g:1 f:(2) 'X':3 'at':4)", "l('X':3 'at':4 f:2 g:1)"}, {"l()", "l"}, {"'if'(X ...)", "'if'(1:X ...)"}, {"l(...)", "l(...)"}, {"''('':_)", "''('':_)"}, {"l(X = Y ~1 f:~X)", "l(1:(X = Y) 2:~1 f:(~ X))"},
		{"[X Y]", "[X Y]"}, {"[(X Y)]", "[(X Y)]"}, {"X|Y|nil", "(X | (Y | nil))"}, {"X # Y # Z", "(X # Y # Z)"}, {"(X # Y) # Z", "((X # Y) # Z)"}, {"X # (Y # Z)", "(X # (Y # Z))"},
		{"X.a.1", "((X . a) . 1)"}, {"X := Y = Z", "(X := (Y = Z))"}, {"~@!!X", "(~ (@ (!! X)))"}, {"~ 5", "(~ 5)"}, {"~~5", "(~ ~5)"},
		{"A + B * C div D - E mod F", "((A + ((B * C) div D)) - (E mod F))"}, {"A \\= B orelse A == B andthen A < B", "((A \\= B) orelse ((A == B) andthen (A < B)))"}, {"[A =< B A > B A >= B]", "[(A =< B) (A > B) (A >= B)]"},
		{"{X}", "{X}"}, {"{X 1 (Y Z)}", "{X 1 (Y Z)}"}, {"X Y", "(X Y)"}, {"(X Y) Z", "((X Y) Z)"}, {"a (X)", "(a X)"}, {"a (X Y)", "(a (X Y))"},
		{"local X Y in X end", "local X Y in X end"}, {"local X in X X end", "local X in X X end"}, {"local X in (X X) X end", "local X in (X X) X end"},
		{"proc {X} skip end", "proc {X} skip end"}, {"proc {$ A B} A B end", "proc {$ A B} A B end"}, {"fun {F X} X end", "fun {F X} X end"}, {"fun lazy {$ X} X X end", "fun lazy {$ X} X X end"}, {"fun lazy {F} X end", "fun lazy {F} X end"},
		{"if X = 1 then Y end", "if (X = 1) then Y end"}, {"if (X Y) then Y Z else A (B C) end", "if (X Y) then Y Z else A (B C) end"},
		{"case X of a(Y ...) then Y Z [] _|_ then skip end", "case X of a(1:Y ...) then Y Z [] (_ | _) then skip end"}, {"case (X Y) of [A] then B else C D end", "case (X Y) of [A] then B else C D end"}, {"case X of A then (B) [] C then D E else F end", "case X of A then B [] C then D E else F end"},
		{"thread X end", "thread X end"}, {"thread X Y end", "thread X Y end"}, {"raise X end", "raise X end"}, {"raise (X Y) end", "raise (X Y) end"},
		{"try A B catch X then C D end", "try A B catch X then C D end"}, {"for X in A at (B C) do D E end", "for X in A at (B C) do D E end"}, {"for each X in (A B) do C D end", "for each X in (A B) do C D end"},
		{"[A for X in B]", "[A for X in B]"}, {"[(A B) for X in (C D) if (E F)]", "[(A B) for X in (C D) if (E F)]"}, {"[A (for X in B at C do D end)]", "[A for X in B at C do D end]"}, {"[A (for each X in B do C end)]", "[A for each X in B do C end]"},
		{"lock (A B) then C D end", "lock (A B) then C D end"}, {"choice A end", "choice A end"}, {"choice A B [] C [] (D E) end", "choice A B [] C [] D E end"},
		{"thread thread A B end end", "thread thread A B end end"}, {"{P fun {$ A} A A end}", "{P fun {$ A} A A end}"},
	} {
		got, err := tree.Print(mustParse(t, c[0]))
		if got != c[1] || err != api.OK {
			t.Errorf("P2.2: Print of %q: %q, %d; want %q", c[0], got, err, c[1])
		}
	}
}

func TestLines(t *testing.T) {
	for _, c := range []struct {
		text string
		want []string
	}{
		{"X", []string{"X"}},
		{"X Y", []string{"X", "Y"}},
		{"(X Y) a (Z = 1)", []string{"(X Y)", "a", "(Z = 1)"}},
		{"{(A B) C}", []string{"{(A B) C}"}},
		{"thread A end", []string{"thread A end"}},
		{"thread A B end", []string{"thread", "  A", "  B", "end"}},
		{"thread (A B) C end", []string{"thread", "  (A B)", "  C", "end"}},
		{"X thread A {B} end Y", []string{"X", "thread", "  A", "  {B}", "end", "Y"}},
		{"thread A thread B C end D end", []string{"thread", "  A", "  thread", "    B", "    C", "  end", "  D", "end"}},
		{"thread thread A B end end", []string{"thread thread", "  A", "  B", "end end"}},
		{"if A then B else C end", []string{"if A then B else C end"}},
		{"if A then B C else D end", []string{"if A then", "  B", "  C", "else D end"}},
		{"if A then B else C D end", []string{"if A then B else", "  C", "  D", "end"}},
		{"if (A B) then C D else E F end", []string{"if (A B) then", "  C", "  D", "else", "  E", "  F", "end"}},
		{"case X of a then A B [] b(Y) then Y [] _ then A B else C D end", []string{"case X of a then", "  A", "  B", "[] b(1:Y) then Y [] _ then", "  A", "  B", "else", "  C", "  D", "end"}},
		{"case X of a then A B end", []string{"case X of a then", "  A", "  B", "end"}},
		{"local X Y in X Y end", []string{"local X Y in", "  X", "  Y", "end"}},
		{"proc {P A} A A end", []string{"proc {P A}", "  A", "  A", "end"}},
		{"fun {$} A A end", []string{"fun {$}", "  A", "  A", "end"}},
		{"fun lazy {F A} A A end", []string{"fun lazy {F A}", "  A", "  A", "end"}},
		{"X = fun {$} A A end Y", []string{"(X = fun {$}", "  A", "  A", "end)", "Y"}},
		{"{P fun {$} A B end proc {$} C D end}", []string{"{P fun {$}", "  A", "  B", "end proc {$}", "  C", "  D", "end}"}},
		{"try A B catch X then C D end", []string{"try", "  A", "  B", "catch X then", "  C", "  D", "end"}},
		{"for X in A at thread B C end do D E end", []string{"for X in A at thread", "  B", "  C", "end do", "  D", "  E", "end"}},
		{"for each X in A do B C end", []string{"for each X in A do", "  B", "  C", "end"}},
		{"lock A then B C end", []string{"lock A then", "  B", "  C", "end"}},
		{"raise (A B) end", []string{"raise (A B) end"}},
		{"[(A B) for X in (C D) if (E F)]", []string{"[(A B) for X in (C D) if (E F)]"}},
		{"choice A B [] C [] D E end", []string{"choice", "  A", "  B", "[] C []", "  D", "  E", "end"}},
		{`X = "a\nb" '\n'`, []string{`(X = "a\nb")`, `'\n'`}},
	} {
		got, err := tree.Lines(mustParse(t, c.text))
		if !slices.Equal(got, c.want) || err != api.OK {
			t.Errorf("P2.2: Lines of %q: %q, %d; want %q", c.text, got, err, c.want)
		}
	}
}

// chain returns a phrase of some depth.
func chain(depth int) api.Tree {
	t := x
	for range depth - 1 {
		t = node("get", t)
	}
	return t
}

func many(n int, t api.Tree) []api.Tree {
	var l []api.Tree
	for range n {
		l = append(l, t)
	}
	return l
}

func variables(n int) []api.Tree {
	var l []api.Tree
	for i := range n {
		l = append(l, leaf("var", "X"+strconv.Itoa(i)))
	}
	return l
}

func local(n int, kids ...api.Tree) api.Tree { return api.Tree{Do: "local", N: n, Kids: kids} }

func rec(do, label string, kids ...api.Tree) api.Tree {
	return api.Tree{Do: do, Text: label, Kids: kids}
}

func number(n int, kid api.Tree) api.Tree { return field(api.Feat{N: n}, kid) }

func named(name string, kid api.Tree) api.Tree { return field(api.Feat{Text: name}, kid) }

func arm(pattern, body api.Tree) api.Tree { return node("arm", pattern, body) }

func op(text string, kids ...api.Tree) api.Tree { return api.Tree{Do: "op", Text: text, Kids: kids} }

var someAny = node("any")

func TestValidTrees(t *testing.T) {
	for _, v := range []api.Tree{
		leaf("var", "X"), leaf("var", "X"+strings.Repeat("a", 59)), leaf("atom", ""), leaf("atom", "if"), leaf("atom", strings.Repeat("\n", 60)), leaf("int", "~1"), leaf("int", "0"), leaf("str", ""), leaf("str", strings.Repeat("'", 200)), someAny, node("skip"),
		rec("rec", "", number(1, x)), rec("rec", "if", number(1, x), number(1000, x), named("", x), named("A", x), named("a", x)), rec("open", "l"), rec("open", "l", number(2, x), named("a", y)),
		node("list", x), node("list", many(1999, x)...), node("cons", x, x), node("tuple", x, x), node("tuple", node("tuple", x, x), x), node("dot", x, x), node("set", x, x), node("eq", x, x), op("+", x, x), op("andthen", x, x), node("neg", one), node("get", x), node("view", x),
		node("call", x), node("call", one, x, x), node("seq", x, x), node("seq", node("seq", x, x), x), local(1, x, x), local(2, x, y, x), local(1000, append(variables(1000), x)...),
		node("proc", x, x), node("proc", x, x, y, x), node("proc", someAny, x), node("fun", someAny, x, x), node("lazy", x, x), node("if", x, x), node("if", x, x, x),
		node("case", x, arm(x, x)), node("case", x, arm(x, x), arm(someAny, x), x), node("case", x, arm(rec("open", "l"), x)),
		node("thread", x), node("raise", x), node("try", x, x, x), node("for", x, x, x, x), node("each", x, x, x), node("comp", x, x, x), node("comp", x, x, x, x), node("lock", x, x), node("choice", x), node("choice", x, x, x),
		chain(100), rec("rec", "l", number(1, chain(98))), {Do: "skip", Kids: []api.Tree{}},
	} {
		if !tree.Valid(v) {
			t.Errorf("P2.2: not valid: %.200s", brief(v))
		}
		if _, err := tree.Print(v); err != api.OK {
			t.Errorf("P2.2: Print of %.200s: %d", brief(v), err)
		}
		if l, err := tree.Lines(v); err != api.OK || len(l) == 0 {
			t.Errorf("P2.2: Lines of %.200s: %d", brief(v), err)
		}
	}
}

// endless returns a tree that stands below itself.
func endless() api.Tree {
	kids := []api.Tree{x, node("seq", x, x)}
	kids[1].Kids = kids
	return node("seq", kids...)
}

// shared returns a tree whose Kids are shared so often that it has more paths than can be walked.
func shared(depth int) api.Tree {
	t := x
	for range depth - 1 {
		t = node("seq", t, t)
	}
	return t
}

func TestInvalidTrees(t *testing.T) {
	for _, v := range []api.Tree{
		{}, {Do: "nothing"}, {Do: "Var", Text: "X"}, {Do: "text", Text: "a"}, {Do: "char", Text: "a"}, {Do: "key", Text: "if"},
		leaf("var", "x"), leaf("var", ""), leaf("var", "X"+strings.Repeat("a", 60)), {Do: "var", Text: "X", N: 1}, {Do: "var", Text: "X", Kids: []api.Tree{x}}, leaf("var", "_1"),
		leaf("atom", "\t"), leaf("atom", strings.Repeat("a", 61)), {Do: "atom", Text: "a", N: 1}, {Do: "atom", Text: "a", Kids: []api.Tree{x}}, leaf("int", "~0"), leaf("int", "007"), leaf("int", ""), leaf("int", "1234567890123456789"), {Do: "int", Text: "1", N: 1}, leaf("str", "\x00"), leaf("str", strings.Repeat("a", 201)),
		leaf("any", "_"), {Do: "any", N: 1}, node("any", x), leaf("skip", "skip"), {Do: "skip", N: -1}, node("skip", x),
		rec("rec", "l"), rec("rec", "\t", number(1, x)), {Do: "rec", Text: "l", N: 1, Kids: []api.Tree{number(1, x)}}, rec("rec", "l", x), rec("rec", "l", number(2, x), number(1, x)), rec("rec", "l", number(1, x), number(1, x)), rec("rec", "l", named("a", x), number(1, x)), rec("rec", "l", named("b", x), named("a", x)), rec("rec", "l", named("a", x), named("a", x)),
		rec("rec", "l", number(1001, x)), rec("rec", "l", number(-1, x)), rec("rec", "l", field(api.Feat{N: 1, Text: "a"}, x)), rec("rec", "l", named("\t", x)), rec("rec", "l", node("field")), rec("rec", "l", node("field", x, x)), rec("rec", "l", number(1, leaf("var", "x"))), rec("open", "l", number(2, x), number(1, x)), rec("open", "\x7f"), {Do: "open", N: 1}, rec("open", "l", node("fields", x)),
		node("field", x), number(1, x), arm(x, x), node("seq", x, number(1, x)), node("seq", x, arm(x, x)),
		node("list"), leaf("list", "a"), node("cons", x), node("cons", x, x, x), node("tuple", x), node("tuple"), node("dot", x), node("set", x, x, x), node("eq"), {Do: "eq", Text: "=", Kids: []api.Tree{x, x}}, {Do: "eq", N: 1, Kids: []api.Tree{x, x}},
		op("+", x), op("+", x, x, x), op("", x, x), op("=", x, x), op(">=<", x, x), op("~", x), {Do: "op", Text: "+", N: 1, Kids: []api.Tree{x, x}}, op("+", x, leaf("var", "x")), node("neg"), node("get", x, x), node("view", x, x),
		node("call"), node("seq", x), node("seq"), local(0, x), local(1, x), local(2, x, x), local(2, x, x, x), local(1, one, x), local(1, someAny, x), local(-1), local(1 << 62), {Do: "local", Text: "X", N: 1, Kids: []api.Tree{x, x}}, local(1, x, leaf("var", "x")), local(1, leaf("var", "x"), x), local(1, x, x, x),
		node("proc"), node("proc", x), node("proc", a, x), node("proc", x, someAny, x), node("proc", x, x, x, x), node("fun", one, x), node("lazy", x, a, x), node("fun", x, node("arm")), {Do: "fun", Text: "F", Kids: []api.Tree{x, x}}, node("fun", leaf("any", "$"), x),
		node("if", x), node("if", x, x, x, x), node("case"), node("case", x), node("case", x, x), node("case", x, arm(x, x), x, x), node("case", x, arm(x, x), x, arm(x, x)), node("case", arm(x, x), arm(x, x)), node("case", x, node("arm", x)), node("case", x, node("arm", x, x, x)), node("case", x, arm(node("call", x), x)), node("case", x, arm(x, leaf("var", "x"))), node("case", x, api.Tree{Do: "arm", Text: "a", Kids: []api.Tree{x, x}}), node("case", x, api.Tree{Do: "arm", N: 1, Kids: []api.Tree{x, x}}), node("case", x, arm(node("cons", x, x), x)),
		node("thread"), node("thread", x, x), node("raise"), node("raise", x, x), node("try", x, x), node("try", x, a, x), node("try", x, x, x, x), node("for", x, x, x), node("for", a, x, x, x), node("for", x, x, x, x, x), node("each", x, x), node("each", someAny, x, x), node("each", x, x, x, x), node("comp", x, x), node("comp", x, a, x), node("comp", x, x, x, x, x), node("comp", x, a, x, x), node("lock", x), node("lock", x, x, x), node("choice"),
		node("comp", node("arm"), x, x), node("comp", x, x, node("arm")), node("comp", x, x, x, node("arm")), node("for", x, node("arm"), x, x), node("for", x, x, node("arm"), x), node("for", x, x, x, node("arm")), node("each", x, node("arm"), x), node("try", node("arm"), x, x), node("try", x, x, node("arm")),
		chain(101), rec("rec", "l", number(1, chain(99))), node("list", many(2000, x)...), endless(), shared(60), shared(90),
	} {
		if tree.Valid(v) {
			t.Errorf("P2.2: valid: %.200s", v.Do)
		}
		if s, err := tree.Print(v); s != "" || err != api.ErrForm {
			t.Errorf("P2.2: Print of %.200s: %d", v.Do, err)
		}
		if l, err := tree.Lines(v); len(l) != 0 || err != api.ErrForm {
			t.Errorf("P2.2: Lines of %.200s: %d", v.Do, err)
		}
		if l := tree.Vars(v); len(l) != 0 {
			t.Errorf("P2.3: Vars of %.200s: %v", v.Do, l)
		}
		if tree.IsPattern(v) {
			t.Errorf("P2.2: a pattern: %.200s", v.Do)
		}
	}
}

func TestIsPattern(t *testing.T) {
	for _, v := range []api.Tree{x, a, one, someAny, rec("rec", "l", number(1, x), named("a", y)), rec("open", "l"), rec("open", "l", number(7, someAny)), node("list", x, y, a), node("cons", x, y), node("tuple", x, y, someAny, someAny), node("list", node("cons", x, node("tuple", y, one))), node("list", many(1999, someAny)...)} {
		if !tree.IsPattern(v) {
			t.Errorf("P2.2: no pattern: %s", brief(v))
		}
	}
	for _, v := range []api.Tree{leaf("str", "a"), node("skip"), node("call", x), node("seq", x, y), op("+", x, y), node("neg", one), node("eq", x, y), node("get", x), node("dot", x, a), node("thread", x), node("comp", x, x, x), local(1, x, x), node("case", x, arm(x, x)), node("proc", someAny, x), node("fun", x, x),
		node("list", x, x), node("cons", x, x), node("tuple", x, y, x), rec("rec", "l", number(1, x), number(2, x)), rec("open", "l", number(1, x), number(2, node("list", x))), node("list", node("call", x)), rec("rec", "l", number(1, leaf("str", ""))), node("list", node("cons", x, y), node("cons", y, someAny)),
		node("list", many(2000, someAny)...), node("list"), node("cons", x), rec("rec", "l"), node("field", x), arm(x, x)} {
		if tree.IsPattern(v) {
			t.Errorf("P2.2: a pattern: %s", brief(v))
		}
	}
}

func TestSizeAndDepth(t *testing.T) {
	for _, c := range []struct {
		tree        api.Tree
		size, depth int
	}{
		{api.Tree{}, 1, 1}, {x, 1, 1}, {node("seq", x, node("get", x), x), 5, 3}, {rec("rec", "l", number(1, x), number(2, x)), 5, 3}, {node("case", x, arm(x, x), x), 6, 3},
		{node("nothing", node(""), node("", node(""))), 4, 3}, {chain(100), 100, 100}, {chain(101), 101, 101}, {chain(102), 102, 101}, {chain(5000), 2001, 101},
		{node("list", many(1999, x)...), 2000, 2}, {node("list", many(2000, x)...), 2001, 2}, {node("list", many(9999, x)...), 2001, 2}, {node("list", many(1000, node("get", x))...), 2001, 3},
		{endless(), 2001, 101}, {shared(60), 2001, 60}, {shared(100), 2001, 100}, {shared(200), 2001, 101}, {shared(10), 1023, 10},
	} {
		if size, depth := tree.Size(c.tree), tree.Depth(c.tree); size != c.size || depth != c.depth {
			t.Errorf("P2.2: %s: %d, %d; want %d, %d", c.tree.Do, size, depth, c.size, c.depth)
		}
	}
}

func TestSame(t *testing.T) {
	l := []api.Tree{{}, x, y, a, one, leaf("str", "a"), {Do: "var", Text: "X", N: 1}, node("seq", x, y), node("seq", y, x), node("seq", x), node("seq", x, y, a), node("list", x, y), node("seq", x, node("seq", x, y)), number(1, x), named("a", x), chain(200), chain(201), endless(), shared(60), shared(61)}
	for i, v := range l {
		for j, w := range l {
			if tree.Same(v, w) != (i == j) {
				t.Errorf("P2.2: Same of %d and %d is %t", i, j, i != j)
			}
		}
	}
	if !tree.Same(node("skip"), api.Tree{Do: "skip", Kids: []api.Tree{}}) || !tree.Same(shared(12), shared(12)) || !tree.Same(endless(), endless()) {
		t.Errorf("P2.2: not the same")
	}
	changed := endless()
	changed.Kids[0] = y
	if tree.Same(endless(), changed) {
		t.Errorf("P2.2: the same, but for a variable")
	}
}

func TestVars(t *testing.T) {
	for _, c := range [][2]string{
		{"X", "X"}, {"a(1 \"b\" c _)", ""}, {"B A B", "B A"}, {"a(2:X 1:Y f:Z)", "Y X Z"}, {"a(f:X ...)", "X"}, {"{X Y X Z}", "X Y Z"}, {"X.Y + @Z = !!A # ~B", "X Y Z A B"},
		{"local X Y in X Z Y end X", "Z X"}, {"X local X in X end", "X"}, {"local X in local Y in X Y Z end X end", "Z"}, {"local X in local X in X end X end Y", "Y"},
		{"proc {P A B} A B P C end", "P C"}, {"fun {F F} F end", "F"}, {"fun lazy {F A} A B end A", "F B A"}, {"proc {$ A} A end", ""}, {"fun {$ A} B end", "B"}, {"{proc {P A} Q end A}", "P Q A"},
		{"case X of a(Y f:Z) then Y Z A else Y end", "X A Y"}, {"case X of X then X end", "X"}, {"case A of B|C then B C [] D then B D end", "A B"}, {"case A of [B] then B else B end B", "A B"}, {"case A of b(B ...) then B # C end", "A C"},
		{"try X catch X then X end", "X"}, {"try A catch X then X B end", "A B"}, {"try A catch X then X end X", "A X"},
		{"for X in A at B do X C end", "A B C"}, {"for X in X at Y do X end", "X Y"}, {"for X in Y at X do X Z end", "Y X Z"}, {"for each X in Y do X Z end", "Y Z"}, {"for each X in X do Y end", "X Y"},
		{"[X for X in Y]", "Y"}, {"[X for X in X]", "X"}, {"[X + A for X in B if X > C]", "A B C"}, {"[A for X in Y if X] X", "A Y X"}, {"[Z for X in X if X]", "Z X"},
		{"if A then B else C end", "A B C"}, {"thread A end raise B end lock C then D end choice E [] F end", "A B C D E F"}, {"skip", ""},
	} {
		if got := strings.Join(tree.Vars(mustParse(t, c[0])), " "); got != c[1] {
			t.Errorf("P2.3: Vars of %q: %q; want %q", c[0], got, c[1])
		}
	}
}

func TestFeatures(t *testing.T) {
	order := []api.Feat{{N: 1}, {N: 2}, {N: 10}, {N: 1000}, {Text: ""}, {Text: "\n"}, {Text: "1"}, {Text: "A"}, {Text: "B"}, {Text: "a"}, {Text: "aa"}, {Text: "b"}, {Text: strings.Repeat("z", 60)}}
	for i, v := range order {
		if !tree.IsFeat(v) {
			t.Errorf("P2.2: no feature: %v", v)
		}
		for j, w := range order {
			if tree.Less(v, w) != (i < j) {
				t.Errorf("P2.2: Less(%v, %v) is %t", v, w, i >= j)
			}
		}
	}
	for _, v := range []api.Feat{{N: -1}, {N: 1001}, {N: 1, Text: "a"}, {Text: "\t"}, {Text: strings.Repeat("a", 61)}, {N: -1, Text: "a"}, {Text: "\x80"}} {
		if tree.IsFeat(v) {
			t.Errorf("P2.2: a feature: %v", v)
		}
	}
}

func TestArgumentsStay(t *testing.T) {
	l := node("eq", x, rec("rec", "l", number(1, x), named("a", one)))
	kept := brief(l)
	tree.Print(l)
	tree.Lines(l)
	tree.Vars(l)
	tree.Valid(l)
	if brief(l) != kept {
		t.Errorf("R4: %s, was %s", brief(l), kept)
	}
}
