package kernel_test

import (
	"fmt"
	"slices"
	"strings"
	"testing"

	"manystrand/api"
	"manystrand/kernel"
)

func stmt(do string, args string, kids ...api.Stmt) api.Stmt {
	return api.Stmt{Do: do, Args: strings.Fields(args), Kids: kids}
}

// with returns a statement with a name, a number and features.
func with(s api.Stmt, name string, n int, feats ...api.Feat) api.Stmt {
	s.Name, s.N, s.Feats = name, n, feats
	return s
}

func n(n int) api.Feat { return api.Feat{N: n} }

func f(text string) api.Feat { return api.Feat{Text: text} }

var skip = stmt("skip", "")

func checkValid(t *testing.T, want bool, l ...api.Stmt) {
	t.Helper()
	for _, s := range l {
		if kernel.Valid(s) != want {
			t.Errorf("P3.2: Valid(%v): %t", s, !want)
		}
		if (kernel.Count(s) > 0) != want {
			t.Errorf("P3.2: Count(%v): %d", s, kernel.Count(s))
		}
		text, err := kernel.Print(s)
		if (err == api.OK) != want || !want && (err != api.ErrKernel || text != "") {
			t.Errorf("P3.3: Print(%v): %q, %d", s, text, err)
		}
		again, err := kernel.Rename(s)
		if !want && (err != api.ErrKernel || !kernel.Same(again, api.Stmt{}) || len(kernel.Free(s)) > 0) {
			t.Errorf("P3.4: Rename(%v): %v, %d", s, again, err)
		}
		if kernel.Alike(s, s) != want || !kernel.Same(s, s) {
			t.Errorf("P3.2: %v is not like itself", s)
		}
	}
}

func TestValid(t *testing.T) {
	checkValid(t, true,
		skip, stmt("seq", "", skip, skip), stmt("local", "X", skip), stmt("local", "X Y _1", skip), stmt("eq", "X Y"), stmt("eq", "X X"),
		with(stmt("int", "X"), "", 0), with(stmt("int", "X"), "", api.MaxInt), with(stmt("int", "X"), "", -api.MaxInt),
		with(stmt("rec", "X"), "", 0), with(stmt("rec", "X"), "a b\n", 0), with(stmt("rec", "X Y"), "a", 0, f("")), with(stmt("rec", "X Y Y X"), "a", 0, n(1), n(1000), f("A")),
		stmt("proc", "X", skip), stmt("proc", "X X", skip), stmt("proc", "X A B", skip),
		stmt("if", "X", skip, skip), with(stmt("number", "X", skip, skip), "", -5), with(stmt("number", "X", skip, skip), "", api.MaxInt),
		with(stmt("case", "X", skip, skip), "a", 0), with(stmt("case", "X", skip, skip), "", 0), with(stmt("case", "X Y", skip, skip), "a", 0, n(1)), with(stmt("case", "X Y Z", skip, skip), "a", 1, n(1), f("a")), with(stmt("case", "X", skip, skip), "a", 1), with(stmt("case", "X", skip, skip), "", 2), with(stmt("case", "X Y", skip, skip), "", 2, f("a")),
		stmt("call", "X"), stmt("call", "X X Y"), with(stmt("op", "X"), "show", 0), with(stmt("op", "X X X"), "+", 0), with(stmt("op", "A B C D"), "adjoin", 0),
		stmt("thread", "", skip), stmt("try", "X", skip, skip), stmt("raise", "X"), stmt("choice", "", skip), stmt("choice", "", skip, skip, skip),
		stmt("thread", "", stmt("seq", "", skip, stmt("thread", "", stmt("seq", "", skip, skip)))),
		stmt("call", "_1 _999999999999999999 X_ Z"), stmt("call", "X"+strings.Repeat("x", api.MaxAtom-1)),
	)
}

func TestNotValid(t *testing.T) {
	checkValid(t, false,
		api.Stmt{}, stmt("Skip", ""), stmt("skip ", ""), stmt("fun", "X", skip), stmt("var", "X"),
		stmt("skip", "X"), stmt("skip", "", skip), with(skip, "a", 0), with(skip, "", 1), with(skip, "", 0, n(1)),
		stmt("seq", ""), stmt("seq", "", skip), stmt("seq", "", skip, stmt("seq", "", skip, skip)), stmt("seq", "X", skip, skip),
		stmt("local", "", skip), stmt("local", "X X", skip), stmt("local", "X"), stmt("local", "X", skip, skip), with(stmt("local", "X", skip), "", 1),
		stmt("eq", "X"), stmt("eq", "X Y Z"), stmt("eq", "X Y", skip),
		stmt("int", ""), stmt("int", "X Y"), with(stmt("int", "X"), "", api.MaxInt+1), with(stmt("int", "X"), "", -api.MaxInt-1), with(stmt("int", "X"), "a", 1), with(stmt("int", "X"), "", 1, n(1)), stmt("int", "X", skip),
		stmt("rec", ""), with(stmt("rec", "X Y"), "a", 0), with(stmt("rec", "X"), "a", 0, n(1)), with(stmt("rec", "X"), "\t", 0), with(stmt("rec", "X"), strings.Repeat("a", api.MaxAtom+1), 0), with(stmt("rec", "X"), "a", 1), with(stmt("rec", "X", skip), "a", 0),
		with(stmt("rec", "X Y Z"), "a", 0, n(2), n(1)), with(stmt("rec", "X Y Z"), "a", 0, n(1), n(1)), with(stmt("rec", "X Y Z"), "a", 0, f("a"), n(1)), with(stmt("rec", "X Y"), "a", 0, n(1001)), with(stmt("rec", "X Y"), "a", 0, n(-1)), with(stmt("rec", "X Y"), "a", 0, api.Feat{N: 1, Text: "a"}), with(stmt("rec", "X Y"), "a", 0, f("\x00")),
		stmt("proc", "", skip), stmt("proc", "X A A", skip), stmt("proc", "X"), stmt("proc", "X", skip, skip), with(stmt("proc", "X", skip), "X", 0),
		stmt("if", "", skip, skip), stmt("if", "X Y", skip, skip), stmt("if", "X", skip), stmt("if", "X", skip, skip, skip),
		stmt("number", "", skip, skip), stmt("number", "X", skip), with(stmt("number", "X", skip, skip), "", api.MaxInt+1), with(stmt("number", "X", skip, skip), "a", 1), with(stmt("number", "X Y", skip, skip), "", 1, n(1)),
		stmt("case", "", skip, skip), with(stmt("case", "X", skip), "a", 0), with(stmt("case", "X", skip, skip), "a", 2), with(stmt("case", "X", skip, skip), "a", 3), with(stmt("case", "X", skip, skip), "a", -1), with(stmt("case", "X", skip, skip), "\t", 1), with(stmt("case", "X X", skip, skip), "a", 0, n(1)), with(stmt("case", "X Y Y", skip, skip), "a", 0, n(1), n(2)), with(stmt("case", "X Y", skip, skip), "a", 0), with(stmt("case", "X Y Z", skip, skip), "a", 0, n(2), n(1)),
		stmt("call", ""), stmt("call", "X", skip), with(stmt("call", "X"), "a", 0),
		stmt("op", "X"), with(stmt("op", ""), "", 0), with(stmt("op", ""), "show", 0), with(stmt("op", "X Y"), "show", 0), with(stmt("op", "X"), "Show", 0), with(stmt("op", "X Y"), "+", 0), with(stmt("op", "X Y Z"), "andthen", 0), with(stmt("op", "X", skip), "show", 0), with(stmt("op", "X"), "show", 1), with(stmt("op", "X"), "show", 0, n(1)),
		stmt("thread", ""), stmt("thread", "X", skip), stmt("thread", "", skip, skip), stmt("try", "", skip, skip), stmt("try", "X Y", skip, skip), stmt("try", "X", skip), stmt("raise", ""), stmt("raise", "X Y"), stmt("raise", "X", skip), stmt("choice", ""), stmt("choice", "X", skip),
		stmt("thread", "", stmt("thread", "")), stmt("choice", "", skip, stmt("eq", "X")),
	)
	for _, name := range []string{"x", "_", "_0", "_01", "__1", "_1a", "_~1", "_-1", "_+1", "_1_", " X", "X ", "X'", "_1000000000000000000", "X" + strings.Repeat("x", api.MaxAtom), "if", "_X"} {
		checkValid(t, false, api.Stmt{Do: "raise", Args: []string{name}}, api.Stmt{Do: "local", Args: []string{name}, Kids: []api.Stmt{skip}}, api.Stmt{Do: "call", Args: []string{"X", name}})
	}
	checkValid(t, false, api.Stmt{Do: "raise", Args: []string{""}})
}

func repeated(n int, s api.Stmt) []api.Stmt { return slices.Repeat([]api.Stmt{s}, n) }

func nested(n int, s api.Stmt) api.Stmt {
	for range n {
		s = stmt("thread", "", s)
	}
	return s
}

func TestLimits(t *testing.T) {
	fields := func(count int) []api.Feat {
		var l []api.Feat
		for i := range count {
			l = append(l, n(i+1))
		}
		return l
	}
	checkValid(t, true,
		stmt("choice", "", repeated(1999, skip)...), nested(99, skip), nested(98, stmt("seq", "", skip, skip)), stmt("call", strings.Repeat("X ", 40)), stmt("local", names(40), skip), stmt("proc", "P "+names(39), skip), with(stmt("rec", strings.Repeat("X ", 40)), "a", 0, fields(39)...), with(stmt("case", names(40), skip, skip), "", 2, fields(39)...),
	)
	checkValid(t, false,
		stmt("choice", "", repeated(2000, skip)...), nested(100, skip), nested(99, stmt("seq", "", skip, skip)), stmt("call", strings.Repeat("X ", 41)), stmt("local", names(41), skip), stmt("proc", "P "+names(40), skip), with(stmt("rec", strings.Repeat("X ", 41)), "a", 0, fields(40)...), with(stmt("case", names(41), skip, skip), "", 2, fields(40)...),
		nested(1<<16, skip),
	)
	if got := kernel.Count(stmt("choice", "", repeated(1999, skip)...)); got != 2000 {
		t.Errorf("P3.2: Count: %d", got)
	}
}

// TestRawData: Kids that are shared more often than one can go down, or stand below themselves.
func TestRawData(t *testing.T) {
	shared := skip
	for range 90 {
		shared = stmt("choice", "", shared, shared)
	}
	loop := []api.Stmt{{Do: "thread"}}
	loop[0].Kids = loop
	wide := []api.Stmt{skip, {Do: "choice"}, {Do: "choice"}}
	wide[1].Kids, wide[2].Kids = wide, wide
	checkValid(t, false, shared, loop[0], wide[1])
	twice := []api.Stmt{{Do: "thread", Kids: []api.Stmt{{Do: "thread"}}}}
	twice[0].Kids[0].Kids = twice
	if !kernel.Same(loop[0], twice[0]) || kernel.Same(loop[0], shared) || kernel.Same(wide[1], loop[0]) {
		t.Errorf("P3.2: Same of statements without end")
	}
	other := skip
	for range 90 {
		other = stmt("choice", "", other, other)
	}
	if !kernel.Same(shared, other) || kernel.Same(shared, stmt("choice", "", other, other)) {
		t.Errorf("P3.2: Same of shared statements")
	}
}

func TestCount(t *testing.T) {
	for text, want := range map[string]int{
		"skip": 1, "skip skip": 3, "X = 1": 1, "1 = 2": 4, "if X then skip end": 3, "{P 1}": 4, "case X of a(1) then skip else skip end": 5, "choice skip [] skip [] skip skip end": 6, "proc {P} {P} end": 2,
	} {
		s, _ := kernel.Load(text)
		if got := kernel.Count(s); got != want {
			t.Errorf("P3.2: Count of %q: %d, want %d", text, got, want)
		}
	}
}

func TestFree(t *testing.T) {
	for _, c := range []struct {
		s    api.Stmt
		want string
	}{
		{skip, ""}, {stmt("eq", "X Y"), "X Y"}, {stmt("eq", "Y X"), "Y X"}, {stmt("eq", "X X"), "X"}, {stmt("call", "X _1 Y X"), "X _1 Y"}, {with(stmt("op", "A B A"), "+", 0), "A B"},
		{stmt("seq", "", stmt("raise", "B"), stmt("raise", "A"), stmt("raise", "B")), "B A"},
		{stmt("local", "X Y", stmt("call", "Z Y X A")), "Z A"}, {stmt("seq", "", stmt("local", "X", stmt("raise", "X")), stmt("raise", "X")), "X"}, {stmt("local", "X", skip), ""},
		{stmt("proc", "P A B", stmt("call", "A B C P")), "P C"}, {stmt("proc", "P P", stmt("raise", "P")), "P"}, {stmt("proc", "P", skip), "P"},
		{stmt("if", "X", stmt("raise", "Y"), stmt("raise", "Z")), "X Y Z"}, {with(stmt("number", "X", stmt("raise", "Y"), stmt("raise", "X")), "", 1), "X Y"},
		{with(stmt("case", "X Y Z", stmt("call", "Z Y X A"), stmt("call", "Z Y X B")), "a", 0, n(1), n(2)), "X A Z Y B"},
		{stmt("try", "X", stmt("call", "A X"), stmt("call", "B X")), "A X B"}, {stmt("try", "X", skip, stmt("raise", "X")), ""}, {stmt("try", "X", stmt("raise", "X"), skip), "X"},
		{stmt("local", "X", stmt("seq", "", stmt("local", "X", stmt("raise", "X")), stmt("raise", "X"))), ""},
		{stmt("choice", "", stmt("raise", "B"), stmt("thread", "", stmt("raise", "A"))), "B A"},
		{with(stmt("rec", "X B A"), "a", 0, n(1), n(2)), "X B A"}, {with(stmt("int", "X"), "", 1), "X"},
		{stmt("eq", "X"), ""}, {stmt("seq", "", stmt("raise", "X"), stmt("raise", "y")), ""},
	} {
		if got := kernel.Free(c.s); !slices.Equal(got, strings.Fields(c.want)) {
			t.Errorf("P3.2: Free(%v): %v, want %s", c.s, got, c.want)
		}
	}
}

func TestSame(t *testing.T) {
	l := []api.Stmt{
		{}, skip, stmt("eq", "X Y"), stmt("eq", "Y X"), stmt("call", "X Y"), stmt("call", "X"), stmt("raise", "X"), with(stmt("int", "X"), "", 1), with(stmt("int", "X"), "", 2),
		with(stmt("rec", "X"), "a", 0), with(stmt("rec", "X"), "b", 0), with(stmt("rec", "X Y"), "a", 0, n(1)), with(stmt("rec", "X Y"), "a", 0, n(2)), with(stmt("rec", "X Y"), "a", 0, f("1")),
		stmt("thread", "", skip), stmt("thread", ""), stmt("thread", "", skip, skip), stmt("thread", "", stmt("raise", "X")), stmt("local", "X", stmt("raise", "X")), stmt("local", "Y", stmt("raise", "Y")),
	}
	for i, a := range l {
		for j, b := range l {
			if got := kernel.Same(a, b); got != (i == j) {
				t.Errorf("P3.2: Same(%v, %v): %t", a, b, got)
			}
		}
	}
	if !kernel.Same(skip, api.Stmt{Do: "skip", Args: []string{}, Feats: []api.Feat{}, Kids: []api.Stmt{}}) {
		t.Errorf("P3.2: an empty list is not the same as none")
	}
}

func load(t *testing.T, text string) api.Stmt {
	t.Helper()
	s, err := kernel.Load(text)
	if err != api.OK {
		t.Fatalf("Load(%q): %d", text, err)
	}
	return s
}

func TestAlike(t *testing.T) {
	for _, c := range []struct {
		a, b string
		want bool
	}{
		{"skip", "skip", true}, {"{X}", "{X}", true}, {"{X}", "{Y}", false}, {"local X in {X} end", "local Y in {Y} end", true}, {"local X in {X} end", "local Y in {X} end", false}, {"local Y in {X} end", "local X in {X} end", false},
		{"local X Y in {X Y} end", "local Y X in {Y X} end", true}, {"local X Y in {X Y} end", "local X Y in {Y X} end", false},
		{"local X in local Y in {X Y} end end", "local A in local B in {B A} end end", false}, {"local X in local X in {X} end end", "local X in local Y in {Y} end end", true}, {"local X in local X in {X} end end", "local X in local Y in {X} end end", false},
		{"proc {P A} {A P} end", "proc {P B} {B P} end", true}, {"proc {P A} {A P} end", "proc {Q A} {A Q} end", false}, {"proc {P A B} {A B} end", "proc {P B A} {B A} end", true}, {"proc {P P} {P} end", "proc {P A} {A} end", true}, {"proc {P P} {P} end", "proc {P A} {P} end", false},
		{"try {E} catch E then {E} end", "try {E} catch F then {F} end", true}, {"try {E} catch E then {E} end", "try {F} catch F then {F} end", false},
		{"case X of A|B then {A B} else {A} end", "case X of C|D then {C D} else {A} end", true}, {"case X of A|B then {A B} else {A} end", "case X of C|D then {C D} else {C} end", false},
		{"for I in A at B do {P I} end", "for J in A at B do {P J} end", true}, {"X = [I for I in L]", "X = [J for J in L]", true},
		{"local X in X = 1 end", "local X in X = 2 end", false}, {"local X in X = a end", "local X in X = b end", false}, {"{P} 1", "{P} 1", true}, {"local X in skip end", "local X Y in skip end", false}, {"local X in skip end", "skip", false},
	} {
		a, b := load(t, c.a), load(t, c.b)
		if kernel.Alike(a, b) != c.want || kernel.Alike(b, a) != c.want {
			t.Errorf("P3.2: Alike(%q, %q): %t", c.a, c.b, !c.want)
		}
	}
}

func TestAlikeOfNewVariables(t *testing.T) {
	free, bound := stmt("raise", "_1"), stmt("local", "_1", stmt("raise", "_1"))
	for _, c := range []struct {
		a, b api.Stmt
		want bool
	}{
		{free, free, true}, {free, stmt("raise", "_2"), false}, {bound, stmt("local", "X", stmt("raise", "X")), true}, {bound, stmt("local", "_2", stmt("raise", "_1")), false}, {bound, stmt("local", "_2", stmt("raise", "_2")), true},
		{stmt("local", "X", stmt("eq", "X _1")), stmt("local", "X", stmt("eq", "X X")), false}, {stmt("local", "X", stmt("eq", "X _1")), stmt("local", "_2", stmt("eq", "_2 _1")), true},
		{api.Stmt{}, api.Stmt{}, false}, {skip, api.Stmt{}, false}, {stmt("eq", "X"), stmt("eq", "X"), false},
	} {
		if kernel.Alike(c.a, c.b) != c.want || kernel.Alike(c.b, c.a) != c.want {
			t.Errorf("P3.2: Alike(%v, %v): %t", c.a, c.b, !c.want)
		}
	}
}

func TestRename(t *testing.T) {
	for _, c := range []struct {
		s    api.Stmt
		want string
	}{
		{skip, "skip"}, {stmt("call", "X Y"), "{X Y}"}, {stmt("local", "X Y", stmt("call", "Y X Z")), "local _1 _2 in {_2 _1 Z} end"}, {stmt("local", "_7 _1", stmt("eq", "_1 _7")), "local _1 _2 in _2 = _1 end"},
		{stmt("proc", "P A B", stmt("call", "B P A")), "P = proc {_1 _2} {_2 P _1} end"}, {stmt("local", "P", stmt("proc", "P P", stmt("raise", "P"))), "local _1 in _1 = proc {_2} raise _2 end end"},
		{with(stmt("case", "X A B", stmt("call", "B A X"), stmt("call", "B A X")), "a", 1, n(1), f("b")), "case X of a(1:_1 b:_2 ...) then {_2 _1 X} else {B A X} end"},
		{stmt("try", "E", stmt("local", "X", stmt("call", "X E")), stmt("local", "Y", stmt("call", "Y E"))), "try local _1 in {_1 E} end catch _2 then local _3 in {_3 _2} end end"},
		{stmt("local", "E", stmt("try", "E", stmt("raise", "E"), stmt("raise", "E"))), "local _1 in try raise _1 catch _2 then raise _2 end end"},
		{stmt("local", "X", stmt("seq", "", stmt("local", "X", stmt("raise", "X")), stmt("raise", "X"), stmt("local", "Y", stmt("eq", "X Y")))), "local _1 in local _2 in raise _2 end raise _1 local _3 in _1 = _3 end end"},
		{stmt("if", "X", stmt("local", "X", stmt("raise", "X")), stmt("local", "X", stmt("raise", "X"))), "if X then local _1 in raise _1 end else local _2 in raise _2 end end"},
		{stmt("choice", "", stmt("local", "X", skip), stmt("local", "X", skip)), "choice local _1 in skip end [] local _2 in skip end end"},
	} {
		before := fmt.Sprint(c.s)
		got, err := kernel.Rename(c.s)
		if err != api.OK || inOneLine(got) != c.want {
			t.Errorf("P3.4: Rename(%v): %s, %d; want %s", c.s, inOneLine(got), err, c.want)
		}
		if fmt.Sprint(c.s) != before {
			t.Errorf("R4: Rename changed its argument: %s to %v", before, c.s)
		}
	}
	for _, s := range []api.Stmt{stmt("raise", "_1"), stmt("local", "X", stmt("eq", "X _2")), stmt("try", "_1", stmt("raise", "_1"), skip), stmt("seq", "", stmt("local", "_1", stmt("raise", "_1")), stmt("raise", "_1"))} {
		if got, err := kernel.Rename(s); err != api.ErrForm || !kernel.Same(got, api.Stmt{}) {
			t.Errorf("P3.4: Rename(%v): %v, %d", s, got, err)
		}
	}
	if _, err := kernel.Rename(stmt("eq", "_1")); err != api.ErrKernel {
		t.Errorf("P3.4: the errors of Rename in their order: %d", err)
	}
}
