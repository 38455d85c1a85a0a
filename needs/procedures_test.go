package needs_test

import (
	"slices"
	"strings"
	"testing"

	"manystrand/api"
	"manystrand/kernel"
	"manystrand/needs"
)

// programs are sources with what Reached, Known and Calls return: names, and pairs as F>G, by blanks.
// Rename calls the variables of the program's first `local` _1, _2, .. .
var programs = []struct {
	about, text, reached, known, calls string
}{
	{"no procedure", "skip", "", "", ""},
	{"not called", "local F in proc {F} skip end end", "", "_1", ""},
	{"called", "local F in proc {F} skip end {F} end", "_1", "_1", ">_1"},
	{"called ahead", "local F in {F} proc {F} skip end end", "_1", "_1", ">_1"},
	{"calls itself alone", "local F in proc {F} {F} end end", "", "_1", "_1>_1"},
	{"calls itself", "local F in proc {F} {F} {F} end {F} end", "_1", "_1", ">_1 _1>_1"},
	{"call each other alone", "local F G in proc {F} {G} end proc {G} {F} end end", "", "_1 _2", "_1>_2 _2>_1"},
	{"call each other", "local F G in proc {F} {G} end proc {G} {F} end {G} end", "_1 _2", "_1 _2", ">_2 _1>_2 _2>_1"},
	{"a chain against the text", "local F G H in proc {F} skip end proc {G} {F} end proc {H} {G} end {H} end", "_1 _2 _3", "_1 _2 _3", ">_3 _2>_1 _3>_2"},
	{"a chain that begins nowhere", "local F G H in proc {F} skip end proc {G} {F} end proc {H} {G} end {F} end", "_1", "_1 _2 _3", ">_1 _2>_1 _3>_2"},

	{"in a part", "local F in proc {F} skip end if X then {F} end end", "_1", "_1", ">_1"},
	{"in a thread", "local F in proc {F} skip end thread {F} end end", "_1", "_1", ">_1"},
	{"an argument", "local F in proc {F} skip end {G F} end", "_1", "", ""},
	{"an argument of itself", "local F in proc {F X} skip end {F F} end", "_1", "", ""},
	{"an argument of an operation", "local F in proc {F} skip end {Cell F C} end", "_1", "", ""},
	{"compared", "local F in proc {F} skip end X = F == G end", "_1", "", ""},
	{"unified, left", "local F in proc {F} skip end F = G end", "_1", "", ""},
	{"unified, right", "local F in proc {F} skip end G = F end", "_1", "", ""},
	{"unified with itself", "local F in proc {F} skip end F = F end", "_1", "", ""},
	{"in a record", "local F in proc {F} skip end X = a(F) end", "_1", "", ""},
	{"also a number", "local F in proc {F} skip end F = 5 end", "_1", "", ""},
	{"also a record", "local F in proc {F} skip end F = a(X) end", "_1", "", ""},
	{"asked", "local F in proc {F} skip end if F then skip end end", "_1", "", ""},
	{"raised", "local F in proc {F} skip end raise F end end", "_1", "", ""},
	{"used in a body that nothing reaches", "local F G in proc {F} skip end proc {G} X = F end end", "", "_2", ""},
	{"used in a body", "local F G in proc {F} skip end proc {G} X = F end {G} end", "_1 _2", "_2", ">_2"},
	{"used in its own body alone", "local F in proc {F} X = F end end", "", "", ""},
	{"called in its own body, and used", "local F in proc {F} X = F {F} end end", "", "", ""},

	{"free", "proc {F} skip end", "F", "", ""},
	{"free, called", "proc {F} skip end {F}", "F", "", ""},
	{"free, in a body that nothing reaches", "local G in proc {G} proc {F} skip end end end", "", "_1", ""},
	{"free, in a body", "local G in proc {G} proc {F} skip end end {G} end", "_1 F", "_1", ">_1"},
	{"a parameter", "local G in proc {G F} proc {F} skip end end {G X} end", "_1 _2", "_1", ">_1"},
	{"a parameter where nothing reaches", "local G in proc {G F} proc {F} skip end end end", "", "_1", ""},
	{"caught", "try skip catch F then proc {F} skip end end", "_1", "", ""},
	{"no local binds it, nor does the call", "proc {F} {F} end", "F", "", ""},

	{"two procs", "local F in proc {F} skip end proc {F} skip end end", "_1", "", ""},
	{"two procs, called", "local F in proc {F} skip end proc {F} skip end {F} end", "_1", "", ""},
	{"two procs, one where nothing reaches", "local F G in proc {F} skip end proc {G} proc {F} skip end end end", "", "_2", ""},
	{"two procs, one in a body", "local F G in proc {F} skip end proc {G} proc {F} skip end end {G} end", "_1 _2", "_2", ">_2"},
	{"two procs in bodies, one reached", "local F G H in proc {G} proc {F} skip end end proc {H} proc {F} skip end end {H} end", "_3", "_2 _3", ">_3"},
	{"two procs in bodies, both reached", "local F G H in proc {G} proc {F} {H} end end proc {H} proc {F} skip end end {H} {G} end", "_2 _1 _3", "_2 _3", ">_2 >_3 _1>_3"},
	{"a proc in its own proc", "local F in proc {F} proc {F} skip end end end", "", "", ""},
	{"a proc in its own proc, called", "local F in proc {F} proc {F} {F} end end {F} end", "_1", "", ""},

	{"a name that is bound anew", "local F in proc {F} skip end local F in {F} end end", "", "_1", ""},
	{"a name that is bound anew, called outside", "local F in local F in proc {F} skip end end {F} end", "", "_2", ""},
	{"two of one name", "local F in proc {F} skip end local F in proc {F} skip end {F} end end", "_2", "_1 _2", ">_2"},
	{"a parameter hides it", "local F in proc {F} skip end proc {G F} {F} end end", "G", "_1", ""},
	{"a parameter of its own name", "local F in proc {F F} {F} end end", "", "_1", ""},
	{"a caught one hides it", "local F in proc {F} skip end try {F} catch F then {F} end end", "_1", "_1", ">_1"},
	{"a caught one hides it behind alone", "local F in proc {F} skip end try skip catch F then {F} end end", "", "_1", ""},
	{"where it is bound does not count", "local F G in local F in skip end try skip catch F then skip end proc {F} skip end {F} end", "_1", "_1", ">_1"},

	{"called where nothing gives it a value", "local F in {F} end", "", "", ""},
	{"called, and a number", "local F in F = 1 {F} end", "", "", ""},
	{"called in bodies, by their places", "local F G H in proc {H} {F} {G} end proc {G} {F} end proc {F} {H} end {G} {F} {H} {G} end", "_3 _2 _1", "_3 _2 _1", ">_3 >_2 >_1 _3>_2 _3>_1 _2>_1 _1>_3"},
	{"procs in procs", "local F in proc {F} local G in proc {G} {F} end {G} end end {F} end", "_1 _2", "_1 _2", ">_1 _1>_2 _2>_1"},
	{"procs in procs that nothing reaches", "local F in proc {F} local G in proc {G} {F} end {G} end end end", "", "_1 _2", "_1>_2 _2>_1"},
	{"the innermost one calls", "local F G in proc {F} skip end proc {P} proc {G} {F} end end end", "P", "_1 _2", "_2>_1"},
	{"a free one calls", "local F in proc {F} skip end proc {P} {F} end end", "_1 P", "_1", "P>_1"},
	{"two procs of one variable call", "local F G in proc {F} skip end proc {G} skip end proc {P} {G} end proc {P} {F} {G} end end", "_1 _2 P", "_1 _2", "P>_2 P>_1"},

	{"byneed", "fun lazy {F X} X end", "F _3", "", ""},
	{"for", "for I in A at B do skip end", "_1", "_1", ">_1 _1>_1"},
	{"for each", "for each I in A do skip end", "_1", "_1", ">_1 _1>_1"},
	{"a list of a loop", "L = [I for I in A]", "_1", "_1", ">_1 _1>_1"},
	{"a value", "F = proc {$} skip end", "F", "", ""},
}

// TestProcedures: hand-made programs.
func TestProcedures(t *testing.T) {
	for _, c := range programs {
		checkProcedures(t, c.about, load(t, c.text), c.reached, c.known, c.calls)
	}
}

func checkProcedures(t *testing.T, about string, s api.Stmt, reached, known, calls string) {
	t.Helper()
	l, err := needs.Reached(s)
	if got := strings.Join(l, " "); got != reached || err != api.OK {
		t.Errorf("P4.2: Reached, %s: %q, %d; want %q", about, got, err, reached)
	}
	l, err = needs.Known(s)
	if got := strings.Join(l, " "); got != known || err != api.OK {
		t.Errorf("P4.2: Known, %s: %q, %d; want %q", about, got, err, known)
	}
	if got := callsOf(t, s); got != calls {
		t.Errorf("P4.2: Calls, %s: %q; want %q", about, got, calls)
	}
}

func callsOf(t *testing.T, s api.Stmt) string {
	t.Helper()
	l, err := needs.Calls(s)
	if err != api.OK {
		t.Errorf("P4.2: Calls: %d", err)
	}
	var pairs []string
	for _, p := range l {
		pairs = append(pairs, p[0]+">"+p[1])
	}
	return strings.Join(pairs, " ")
}

// TestLines: programs that no source is translated to.
func TestLines(t *testing.T) {
	for _, c := range []struct{ about, text, reached, known, calls string }{
		{"a part of a case", "case X of a(1:F) then\n  F = proc {}\n    skip\n  end\nelse\n  F = proc {}\n    skip\n  end\nend", "_1 F", "", ""},
		{"a case hides it", "local F in\n  F = proc {}\n    skip\n  end\n  case X of a(1:F) then\n    {F}\n  else\n    skip\n  end\nend", "", "_1", ""},
		{"a case hides it in its first part alone", "local F in\n  F = proc {}\n    skip\n  end\n  case X of a(1:F) then\n    skip\n  else\n    {F}\n  end\nend", "_1", "_1", ">_1"},
		{"what a case looks at", "local F in\n  F = proc {}\n    skip\n  end\n  case F of a(1:Y) then\n    skip\n  else\n    skip\n  end\nend", "_1", "", ""},
		{"what is compared with a number", "local F in\n  F = proc {}\n    skip\n  end\n  number F 5 then\n    skip\n  else\n    skip\n  end\nend", "_1", "", ""},
		{"a choice", "local F G in\n  F = proc {}\n    skip\n  end\n  G = proc {}\n    skip\n  end\n  choice\n    {F}\n  []\n    skip\n  end\nend", "_1", "_1 _2", ">_1"},
		{"a local of a new variable", "local _2 in\n  _2 = proc {_2}\n    {_2}\n  end\nend", "", "_1", ""},
	} {
		checkProcedures(t, c.about, parse(t, c.text), c.reached, c.known, c.calls)
	}
}

// TestNeedsByNames: what hides a procedure's variable hides its layer; new variables that are free are
// variables like others.
func TestNeedsByNames(t *testing.T) {
	for _, c := range []struct {
		text string
		want []int
	}{
		{"_1 = proc {}\n  raise _1\nend", []int{0, 3}},
		{"local _1 in\n  _1 = proc {}\n    raise _2\n  end\nend", []int{0}},
		{"local _1 in\n  _1 = proc {}\n    raise _2\n  end\n  {_2 _1}\nend", []int{0, 3}},
		{"local A in\n  A = proc {}\n    raise _2\n  end\n  local A in\n    {A}\n  end\nend", []int{0}},
		{"local A in\n  A = proc {A}\n    {A}\n    raise _2\n  end\n  A = proc {}\n    op self A\n  end\nend", []int{0, 3, 6}},
	} {
		if got, err := needs.Needs(parse(t, c.text)); !slices.Equal(got, c.want) || err != api.OK {
			t.Errorf("P4.1: Needs of\n%s\n%v, %d; want %v", c.text, got, err, c.want)
		}
	}
}

// TestManyProcedures: a program of as many statements as there may be, whose procedures are reached
// from the last one to the first one.
func TestManyProcedures(t *testing.T) {
	const many = 39
	names := make([]string, many)
	for i := range names {
		names[i] = "F" + strings.Repeat("a", i)
	}
	body := api.Stmt{Do: "seq"}
	for i := range 24 * many {
		kid := api.Stmt{Do: "op", Name: "self", Args: []string{"X"}}
		if i%many > 0 {
			kid = api.Stmt{Do: "call", Args: names[i%many-1 : i%many]}
		}
		body.Kids = append(body.Kids, api.Stmt{Do: "proc", Args: names[i%many : i%many+1], Kids: []api.Stmt{kid}})
	}
	s := api.Stmt{Do: "local", Args: names, Kids: []api.Stmt{body}}
	if !kernel.Valid(s) {
		t.Fatal("not valid")
	}
	if l, err := needs.Reached(s); len(l) != many || err != api.OK {
		t.Errorf("P4.2: Reached: %v, %d", l, err)
	}
	if l, err := needs.Known(s); len(l) != 0 || err != api.OK {
		t.Errorf("P4.2: Known: %v, %d", l, err)
	}
	s.Kids[0].Kids = s.Kids[0].Kids[:many]
	if l, err := needs.Needs(s); !slices.Equal(l, []int{0}) || err != api.OK {
		t.Errorf("P4.1: Needs: %v, %d", l, err)
	}
	s.Kids[0].Kids = append(s.Kids[0].Kids, api.Stmt{Do: "call", Args: names[many-1:]})
	if l, err := needs.Needs(s); !slices.Equal(l, []int{0, 6}) || err != api.OK {
		t.Errorf("P4.1: Needs: %v, %d", l, err)
	}
	if l, err := needs.Known(s); len(l) != many || err != api.OK {
		t.Errorf("P4.2: Known: %v, %d", l, err)
	}
}
