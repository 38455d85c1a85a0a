package tree_test

import (
	"strconv"
	"strings"
	"testing"

	"manystrand/api"
	"manystrand/tree"
)

// brief writes any tree shortly: tokens as their texts, all else as Do, Text and N, and the Kids in brackets.
func brief(t api.Tree) string {
	switch t.Do {
	case "var", "int":
		if t.N == 0 && len(t.Kids) == 0 {
			return t.Text
		}
	case "atom", "str":
		if t.N == 0 && len(t.Kids) == 0 {
			return map[string]string{"atom": "'", "str": `"`}[t.Do] + t.Text
		}
	}
	s := t.Do
	if t.Text != "" {
		s += ":" + t.Text
	}
	if t.N != 0 {
		s += "/" + strconv.Itoa(t.N)
	}
	var kids []string
	for _, kid := range t.Kids {
		kids = append(kids, brief(kid))
	}
	return s + "(" + strings.Join(kids, " ") + ")"
}

func leaf(do, text string) api.Tree { return api.Tree{Do: do, Text: text} }

func node(do string, kids ...api.Tree) api.Tree { return api.Tree{Do: do, Kids: kids} }

func field(f api.Feat, kid api.Tree) api.Tree {
	return api.Tree{Do: "field", N: f.N, Text: f.Text, Kids: []api.Tree{kid}}
}

var x, y, a, one = leaf("var", "X"), leaf("var", "Y"), leaf("atom", "a"), leaf("int", "1")

func TestParse(t *testing.T) {
	for _, c := range [][2]string{
		{"X", "X"}, {"a", "'a"}, {"'a b'", "'a b"}, {"nil", "'nil"}, {"~5", "~5"}, {"0", "0"}, {`"a\n"`, "\"a\n"}, {`""`, `"`},
		{"&a", "97"}, {`&\n`, "10"}, {`&\s`, "32"}, {"&0", "48"}, {"_", "any()"}, {"skip", "skip()"},
		{"l(f:X g:Y)", "rec:l(field:f(X) field:g(Y))"}, {"l()", "'l"}, {"'X y'()", "'X y"}, {"''()", "'"}, {"''(X)", "rec(field/1(X))"},
		{"l(X)", "rec:l(field/1(X))"}, {"l(X Y)", "rec:l(field/1(X) field/2(Y))"}, {"'if'('then':X)", "rec:if(field:then(X))"},
		{"l(...)", "open:l()"}, {"l(X ...)", "open:l(field/1(X))"}, {"l(f:X 7:a ...)", "open:l(field/7('a) field:f(X))"}, {"'if'(...)", "open:if()"},
		{"l(b:1 X a:2 Y 10:3)", "rec:l(field/1(X) field/2(Y) field/10(3) field:a(2) field:b(1))"},
		{"l(1000:X 'B':Y '':a 2:b)", "rec:l(field/2('b) field/1000(X) field('a) field:B(Y))"},
		{"l(3:X 2:Y a)", "rec:l(field/1('a) field/2(Y) field/3(X))"},
		{"l(f : X)", "rec:l(field:f(X))"}, {"l(1 :X /* */ g:\nY)", "rec:l(field/1(X) field:g(Y))"}, {"l( % )\n X )", "rec:l(field/1(X))"},
		{"l(a b(c))", "rec:l(field/1('a) field/2(rec:b(field/1('c))))"}, {"l(f:g(h:1))", "rec:l(field:f(rec:g(field:h(1))))"},
		{"l(f:X = Y Z)", "rec:l(field/1(Z) field:f(eq(X Y)))"},
		{"l (X)", "seq('l X)"}, {"l/**/(X)", "seq('l X)"}, {"l\n(X)", "seq('l X)"}, {"l%\n(X)", "seq('l X)"}, {"'l'(X)", "rec:l(field/1(X))"}, {"X(Y)", "seq(X Y)"}, {"5(X)", "seq(5 X)"},
		{"'a/'(X)", "rec:a/(field/1(X))"}, {"'a '(X)", "rec:a (field/1(X))"}, {"skip(X)", "seq(skip() X)"}, {`"a"(X)`, `seq("a X)`}, {"&a(X)", "seq(97 X)"},
		{"[X]", "list(X)"}, {"[X Y]", "list(X Y)"}, {"[X = 1 Y]", "list(eq(X 1) Y)"}, {"[[X] [Y]]", "list(list(X) list(Y))"}, {"[X [Y]]", "list(X list(Y))"},
		{"{X}", "call(X)"}, {"{X Y 1}", "call(X Y 1)"}, {"{X Y + 1 ~1}", "call(X op:+(Y 1) ~1)"}, {"{a (b)}", "call('a 'b)"}, {"{(A B) C}", "call(seq(A B) C)"},
		{"X Y", "seq(X Y)"}, {"(X Y)", "seq(X Y)"}, {"((X Y))", "seq(X Y)"}, {"((X Y) Z)", "seq(seq(X Y) Z)"}, {"(X Y) Z", "seq(seq(X Y) Z)"}, {"(X) (Y)", "seq(X Y)"}, {"(((X)))", "X"},
		{"1~5", "seq(1 ~5)"}, {"1 - ~5", "op:-(1 ~5)"}, {"1-5", "op:-(1 5)"}, {"~ 5", "neg(5)"}, {"~~5", "neg(~5)"}, {"~X", "neg(X)"}, {"~0", "neg(0)"},
		{"@X", "get(X)"}, {"!!X", "view(X)"}, {"@@X", "get(get(X))"}, {"~@!!X", "neg(get(view(X)))"}, {"X @Y", "seq(X get(Y))"}, {"X ~Y", "seq(X neg(Y))"},
		{"skip skip", "seq(skip() skip())"},
	} {
		checkParse(t, c[0], c[1])
	}
}

func checkParse(t *testing.T, text, want string) {
	t.Helper()
	got, err := tree.Parse(text)
	if err != api.OK || brief(got) != want || !tree.Valid(got) {
		t.Errorf("P2.1: Parse(%q): %s, %d; want %s", text, brief(got), err, want)
	}
	if at, err := tree.Bad(text); at != 0 || err != api.OK {
		t.Errorf("P2.1: Bad(%q): %d, %d", text, at, err)
	}
}

func TestParseOperators(t *testing.T) {
	for _, c := range [][2]string{
		{"X.a.b", "dot(dot(X 'a) 'b)"}, {"X.(a.b)", "dot(X dot('a 'b))"}, {"X.1", "dot(X 1)"}, {"X.~1", "dot(X ~1)"}, {"X.a(Y)", "dot(X rec:a(field/1(Y)))"}, {"a(X).1", "dot(rec:a(field/1(X)) 1)"}, {"{X}.{Y}", "dot(call(X) call(Y))"},
		{"@X.a", "get(dot(X 'a))"}, {"(@X).a", "dot(get(X) 'a)"}, {"~X * Y", "op:*(neg(X) Y)"}, {"X * ~Y", "op:*(X neg(Y))"}, {"~(X * Y)", "neg(op:*(X Y))"}, {"!!X.a + 1", "op:+(view(dot(X 'a)) 1)"},
		{"A * B div C mod D", "op:mod(op:div(op:*(A B) C) D)"}, {"A * (B * C)", "op:*(A op:*(B C))"},
		{"A + B - C", "op:-(op:+(A B) C)"}, {"A - (B - C)", "op:-(A op:-(B C))"}, {"A + B * C", "op:+(A op:*(B C))"}, {"A * B + C", "op:+(op:*(A B) C)"}, {"A - B * C - D", "op:-(op:-(A op:*(B C)) D)"},
		{"A # B", "tuple(A B)"}, {"A # B # C", "tuple(A B C)"}, {"(A # B) # C", "tuple(tuple(A B) C)"}, {"A # (B # C)", "tuple(A tuple(B C))"}, {"(A # B # C)", "tuple(A B C)"}, {"A # (B) # C", "tuple(A B C)"}, {"A + 1 # B", "tuple(op:+(A 1) B)"}, {"((A # B))", "tuple(A B)"},
		{"A|B|nil", "cons(A cons(B 'nil))"}, {"(A|B)|C", "cons(cons(A B) C)"}, {"A # B|C # D", "cons(tuple(A B) tuple(C D))"}, {"A|B # C", "cons(A tuple(B C))"}, {"A + B|C", "cons(op:+(A B) C)"},
		{"A == B", "op:==(A B)"}, {"A \\= B", "op:\\=(A B)"}, {"A < B", "op:<(A B)"}, {"A =< B", "op:=<(A B)"}, {"A > B", "op:>(A B)"}, {"A >= B", "op:>=(A B)"}, {"A|B == C|D", "op:==(cons(A B) cons(C D))"}, {"(A == B) == C", "op:==(op:==(A B) C)"}, {"A == (B == C)", "op:==(A op:==(B C))"}, {"1 + 2 * 3 == 7", "op:==(op:+(1 op:*(2 3)) 7)"},
		{"A andthen B andthen C", "op:andthen(A op:andthen(B C))"}, {"A orelse B orelse C", "op:orelse(A op:orelse(B C))"}, {"A andthen B orelse C", "op:orelse(op:andthen(A B) C)"}, {"A orelse B andthen C", "op:orelse(A op:andthen(B C))"}, {"A == B andthen C < D", "op:andthen(op:==(A B) op:<(C D))"}, {"(A orelse B) andthen C", "op:andthen(op:orelse(A B) C)"},
		{"A = B = C", "eq(A eq(B C))"}, {"A := B := C", "set(A set(B C))"}, {"A = B := C", "eq(A set(B C))"}, {"A := B = C", "set(A eq(B C))"}, {"(A = B) = C", "eq(eq(A B) C)"}, {"A = B orelse C", "eq(A op:orelse(B C))"}, {"A orelse B = C", "eq(op:orelse(A B) C)"}, {"C := @C + 1", "set(C op:+(get(C) 1))"},
		{"A = B C = D", "seq(eq(A B) eq(C D))"}, {"A < B C > D", "seq(op:<(A B) op:>(C D))"}, {"X = a(1 f:2)", "eq(X rec:a(field/1(1) field:f(2)))"},
		{"A + if B then C end", "op:+(A if(B C))"}, {"thread A end . f * 2", "op:*(dot(thread(A) 'f) 2)"},
	} {
		checkParse(t, c[0], c[1])
	}
}

func TestParseKeyed(t *testing.T) {
	for _, c := range [][2]string{
		{"local X in Y end", "local/1(X Y)"}, {"local X Y in Y X end", "local/2(X Y seq(Y X))"},
		{"proc {X} skip end", "proc(X skip())"}, {"proc {$ A B} A B end", "proc(any() A B seq(A B))"}, {"proc {X X} X end", "proc(X X X)"}, {"proc {P} (A B) end", "proc(P seq(A B))"},
		{"fun {$} 1 end", "fun(any() 1)"}, {"fun {F X} {X} {X} end", "fun(F X seq(call(X) call(X)))"}, {"fun lazy {F X} X end", "lazy(F X X)"}, {"fun lazy {$} X end", "lazy(any() X)"},
		{"if X then Y end", "if(X Y)"}, {"if X = 1 then Y Z else A B end", "if(eq(X 1) seq(Y Z) seq(A B))"}, {"if (X Y) then Z end", "if(seq(X Y) Z)"}, {"if if A then B end then C end", "if(if(A B) C)"},
		{"case X of Y then Z end", "case(X arm(Y Z))"}, {"case X of a then Y Z [] b then A else B C end", "case(X arm('a seq(Y Z)) arm('b A) seq(B C))"}, {"case X of X then X [] X then X end", "case(X arm(X X) arm(X X))"},
		{"case X of _ then Y [] _ # _ then Y end", "case(X arm(any() Y) arm(tuple(any() any()) Y))"}, {"case X of A|B|nil then Y end", "case(X arm(cons(A cons(B 'nil)) Y))"}, {"case X of A # B|C then Y end", "case(X arm(cons(tuple(A B) C) Y))"},
		{"case X of (A # B) # C then Y end", "case(X arm(tuple(tuple(A B) C) Y))"}, {"case X of (A) then Y end", "case(X arm(A Y))"}, {"case X of [A 1 ~2 &a (_)] then Y end", "case(X arm(list(A 1 ~2 97 any()) Y))"}, {"case X of a(b:A 1:B ...) then Y end", "case(X arm(open:a(field/1(B) field:b(A)) Y))"},
		{"case X of a() then Y end", "case(X arm('a Y))"}, {"case X of a(...) then Y end", "case(X arm(open:a() Y))"}, {"case X of a(A|B (C) D # E) then Y end", "case(X arm(rec:a(field/1(cons(A B)) field/2(C) field/3(tuple(D E))) Y))"}, {"case X of ((A|B)|C) then Y end", "case(X arm(cons(cons(A B) C) Y))"},
		{"thread A end", "thread(A)"}, {"thread A B end", "thread(seq(A B))"}, {"thread (A B) C end", "thread(seq(seq(A B) C))"}, {"thread (A B) end", "thread(seq(A B))"}, {"raise X end", "raise(X)"}, {"raise (X Y) end", "raise(seq(X Y))"},
		{"try A B catch X then C D end", "try(seq(A B) X seq(C D))"}, {"try A catch X then B end", "try(A X B)"},
		{"for X in A at B do C end", "for(X A B C)"}, {"for X in 1 + 1 at B = 2 do C D end", "for(X op:+(1 1) eq(B 2) seq(C D))"}, {"for each X in Y do Z end", "each(X Y Z)"}, {"for each X in [1] do A B end", "each(X list(1) seq(A B))"},
		{"[A for X in B]", "comp(A X B)"}, {"[A for X in B if C]", "comp(A X B C)"}, {"[X + 1 for X in Y = Z if X > 1]", "comp(op:+(X 1) X eq(Y Z) op:>(X 1))"}, {"[[A for X in B] for Y in C]", "comp(comp(A X B) Y C)"},
		{"[A for X in B at C do D end]", "list(A for(X B C D))"}, {"[A for each X in B do C end]", "list(A each(X B C))"}, {"[A for X in B at C do D end . f = 1 E]", "list(A eq(dot(for(X B C D) 'f) 1) E)"}, {"[for X in B at C do D end]", "list(for(X B C D))"}, {"[for X in B at C do D end for Y in E]", "comp(for(X B C D) Y E)"},
		{"[A B for X in C at D do E end]", "list(A B for(X C D E))"}, {"[A for X in B at C do D end for Y in E at F do G end]", "list(A for(X B C D) for(Y E F G))"}, {"[for each X in B do C end for each X in B do C end]", "list(each(X B C) each(X B C))"},
		{"lock X then Y end", "lock(X Y)"}, {"lock {X} then Y Z end", "lock(call(X) seq(Y Z))"},
		{"choice A end", "choice(A)"}, {"choice A B [] C [] D end", "choice(seq(A B) C D)"},
		{"local X Y in thread Y = X + 1 end X = 4 {Show Y} end", "local/2(X Y seq(thread(eq(Y op:+(X 1))) eq(X 4) call(Show Y)))"},
	} {
		checkParse(t, c[0], c[1])
	}
}

func TestBad(t *testing.T) {
	// The place is the one of the mark ^, which is no part of the source.
	for _, marked := range []string{
		"^", "  ^", "X =^", "(^", "(X^", "{^", "[^", "a(^", "a(X^", "a( ^", "a(f^", "a(f:^", "X.^", "~^", "X #^", "local^", "local X^", "local X in^", "thread X^", "a(1:X^", "a(X ...^", "[A for X in B^", "/* */^",
		"^)", "^]", "^[]", "^}", "X ^)", "(^)", "{^}", "[ ^]", "X ^]", "(X ^]", "{X ^)", "^=", "^|", "^-5", "A - ^- 5", "^* X", "^. X", "X.^~Y", "X.^@Y", "X.^.Y", "X = ^= Y", "^:= Y", "X | ^)", "^:", "X ^: Y", "^...", "^$", "{X ^$}", "^$",
		"A == B ^== C", "A < B ^>= C", "A andthen B == C ^\\= D", "A = B < C ^> D", "A == B + 1 ^== C", "A == B|C ^< D",
		"^end", "^in", "^by", "^lazy", "^at", "^each", "^then", "^catch", "^of", "^do", "^else", "^andthen", "^mod X", "skip ^end",
		"a(X Y ^]", "a(X ^:Y)", "a(&a^:Y)", "a(\"a\"^:Y)", "a(f:^)", "a(f:g^:X)", "a(if ^:X)", "a(... ^X)", "a(X ... ^...)", "a(...^:X)", "a(b(X)^:Y)", "a((1)^:Y)", "a (X ^...)", "a (f^:X)",
	} {
		checkBad(t, marked, api.ErrForm)
	}
}

func checkBad(t *testing.T, marked string, want api.Errno) {
	t.Helper()
	ahead, behind, _ := strings.Cut(marked, "^")
	at, err := tree.Bad(ahead + behind)
	if at != len(ahead) || err != want {
		t.Errorf("P2.1: Bad(%q): %d, %d", ahead+behind, at, err)
	}
	if got, err := tree.Parse(ahead + behind); err != want || !tree.Same(got, api.Tree{}) {
		t.Errorf("P2.1: Parse(%q): %s, %d", ahead+behind, brief(got), err)
	}
}

func TestBadFeatures(t *testing.T) {
	for _, marked := range []string{
		"a(0^:X)", "a(1001^:X)", "a(~1^:X)", "a(999999999999999999^:X)", "a(X 0 ^: Y)", "a(f:X 1001^:Y)", "case X of a(0^:A) then A end",
		"a(1:X ^0:Y)", "a(1:X ^1001:Y)", "a(X 2:Y ^~1:Z)", "case X of a(1:A ^0:B) then A end",
		"a(f:X ^f:Y)", "a(f:X ^'f':Y)", "a('':X ^'':Y)", "a(1:X ^1:Y)", "a(7:X f:Y ^7:Z)", "a(f:X ^f :", "case X of a(f:A ^f:A) then A end",
		"a(X ^1:Y)", "a(X Y ^2:Z)", "a(f:X Y g:Z ^1:Z)", "a(X 2:Y ^Z)", "a(1:X ^Y)", "a(1:X ^(Y))", "a(1:X ^~Y)", "a(1:X ^{Y})", "a(1:X ^f", "a(1:X ^5)", "a(2:X Y ^Z)", "a(1:X ^if Y)", "a(1:X ^f(Y))", "a(1:X ^_ ...)", "case X of a(1:A ^B) then A end",
		"a(" + strings.Repeat("X ", 1000) + "^Y)", "a(" + strings.Repeat("X ", 1000) + "^(Y))", "a(" + strings.Repeat("X ", 1000) + "^0:Y)", "a(" + strings.Repeat("X ", 1000) + "^Y]", "a(" + strings.Repeat("X ", 1000) + "^]",
	} {
		checkBad(t, marked, api.ErrForm)
	}
}

func TestBadKeyed(t *testing.T) {
	for _, marked := range []string{
		"local ^in X end", "local X ^X in X end", "local X Y ^X in X end", "local ^x in X end", "local X ^= 1 in X end", "local X in ^end", "local ^_ in X end", "local ^(X) in X end", "local X ^end",
		"proc ^P skip end", "proc {^} skip end", "proc {^_} skip end", "proc {^p} skip end", "proc {P ^$} skip end", "proc {P A ^A} skip end", "proc {P A B ^A} skip end", "proc {P ^_} skip end", "proc {P ^(A)} skip end", "proc {P} ^end", "proc ^lazy {P} skip end", "fun ^X", "fun lazy ^lazy {F} X end", "fun lazy ^F X end", "fun {F} X ^]",
		"if X ^Y then Z end", "if ^then X end", "if X then ^end", "if X then ^else Y end", "if X then Y else ^end", "if X then Y else Z ^else A end", "if X ^of Y end", "if X then Y ^[] Z end", "if X then Y ^then Z end",
		"case X ^then Y end", "case X of ^end", "case X of A then ^end", "case X of A then B [] ^end", "case X of A then B ^then C end", "case X of A then B else C ^[] D then E end", "case X of ^[] A then B end", "case X ^Y", "case X^", "case X ^Y of A then B end",
		"case X of ^{A} then B end", "case X of ^\"a\" then B end", "case X of ^~ 5 then B end", "case X of A ^+ 1 then B end", "case X of A ^= B then C end", "case X of A ^B then C end", "case X of (A ^B) then C end", "case X of ^skip then C end", "case X of ^@A then C end", "case X of A^.b then C end", "case X of A ^== B then C end", "case X of ^$ then C end", "case X of ^if A then B end then C end", "case X of a(A ^{B}) then C end", "case X of a(f:^\"b\") then C end", "case X of [A ^for B in C] then D end", "case X of [ ^] then D end", "case X of ^[] then D end", "case X of a(f:A ^= B) then C end", "case X of A|^{B} then C end", "case X of A|B ^+ 1 then C end", "case X of A # B ^* C then D end", "case X of A|B # C ^- D|E then F end", "case X of A # (B ^+ C) then D end", "case X of [A|B ^div C] then D end", "case X of A # ^~B then C end", "case X of (^) then C end", "case X of A | B ^:= C then D end", "case X of a(A^:B) then D end", "case X of (A|B ^]", "case X of A^",
		"case X of a(A ^A) then B end", "case X of A|^A then B end", "case X of A # B # ^A then C end", "case X of [A b(c:^A)] then C end", "case X of a(A ^A", "case X of A then B [] a(B C ^B) then D end",
		"thread ^end", "raise ^end", "raise X ^Y end", "try ^catch X then Y end", "try X ^then Y end", "try X catch ^then Y end", "try X catch ^_ then Y end", "try X catch Y ^Z end", "try X catch Y then ^end", "try X ^end",
		"for ^x in A at B do C end", "for X ^at B do C end", "for X in A ^do C end", "for X in A ^B at C do D end", "for X in A at B ^C do D end", "for X in A at B do ^end", "for each X in A ^at B do C end", "for each ^each in A do B end", "for each X in A do ^end", "for ^_ in A at B do C end",
		"[A for ^_ in B]", "[A for X ^B]", "[A for X in B ^C]", "[A for X in B if C ^D]", "[A for X in B if ^]", "[A for X in B ^do C end]", "[A for X in B if C ^at D]", "[A for each X in B^]", "[A B for X in C^]", "(A for X in B^)", "[A for X in B at C do D end ^at]", "[A for ^]", "[A for X in ^]",
		"lock ^then X end", "lock X ^X end", "lock X then ^end", "choice ^end", "choice X [] ^end", "choice ^[] X end", "choice X ^else Y end",
	} {
		checkBad(t, marked, api.ErrForm)
	}
}

func TestErrorsInOrder(t *testing.T) {
	deep := strings.Repeat("@", api.MaxNest-1)
	wide := strings.Repeat("X ", api.MaxTree-1)
	for _, c := range []struct {
		text string
		at   int
		err  api.Errno
	}{
		{") 007", 2, api.ErrToken}, {"a(1:X 1:Y) 'b", 11, api.ErrToken}, {deep + "@X 'b", 102, api.ErrToken}, {"/*", 0, api.ErrToken},
		{strings.Repeat(" ", api.MaxSource+1), -1, api.ErrLimit}, {strings.Repeat(")", api.MaxSource+1), -1, api.ErrLimit}, {strings.Repeat("'", api.MaxSource+1), -1, api.ErrLimit},
		{strings.Repeat(" ", api.MaxSource), api.MaxSource, api.ErrForm}, {strings.Repeat(" ", api.MaxSource-1) + "X", 0, api.OK},
		{deep + "X", 0, api.OK}, {deep + "@X", -1, api.ErrLimit}, {deep + "@X)", 101, api.ErrForm}, {deep + "@", 100, api.ErrForm},
		{wide, 0, api.OK}, {wide + "X", -1, api.ErrLimit}, {wide + "X )", 4000, api.ErrForm}, {wide + "X =", 4001, api.ErrForm},
		{"a(" + strings.Repeat("X ", 999) + ")", 0, api.OK}, {"a(" + strings.Repeat("X ", 1000) + ")", -1, api.ErrLimit}, {"a(" + strings.Repeat("X ", 1001) + ")", 2002, api.ErrForm},
		{strings.Repeat("(", 9999) + "X" + strings.Repeat(")", 9999), 0, api.OK}, {strings.Repeat("(", 9999) + "X" + strings.Repeat(")", 9998), 19998, api.ErrForm},
		{strings.Repeat("(", api.MaxSource), api.MaxSource, api.ErrForm}, {strings.Repeat("[", api.MaxSource-1) + "X", api.MaxSource, api.ErrForm}, {strings.Repeat("@", api.MaxSource), api.MaxSource, api.ErrForm},
		{strings.Repeat("X|", 98) + "X Y", 0, api.OK}, {strings.Repeat("X|", 9999) + "X", -1, api.ErrLimit}, {strings.Repeat("X+", 99) + "X", 0, api.OK}, {strings.Repeat("X+", 100) + "X", -1, api.ErrLimit}, {strings.Repeat("X#", 1998) + "X", 0, api.OK}, {strings.Repeat("X#", 1999) + "X", -1, api.ErrLimit},
		{"{" + strings.Repeat("[X for X in ", 1000), 12001, api.ErrForm},
		{strings.Repeat("[A for X in ", 97) + "A" + strings.Repeat(" at B do C end]", 97), -1, api.ErrLimit}, {strings.Repeat("[A for X in ", 49) + "A" + strings.Repeat(" at B do C end]", 49), 0, api.OK},
	} {
		at, err := tree.Bad(c.text)
		if at != c.at || err != c.err {
			t.Errorf("P2.1: Bad(%.30q of %d bytes): %d, %d; want %d, %d", c.text, len(c.text), at, err, c.at, c.err)
		}
		if got, err := tree.Parse(c.text); err != c.err || (err == api.OK) != tree.Valid(got) || err != api.OK && !tree.Same(got, api.Tree{}) {
			t.Errorf("P2.1: Parse(%.30q of %d bytes): %d", c.text, len(c.text), err)
		}
	}
}
