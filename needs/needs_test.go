package needs_test

import (
	"slices"
	"testing"

	"manystrand/api"
	"manystrand/kernel"
	"manystrand/needs"
)

// load returns the statement of a source.
func load(t *testing.T, text string) api.Stmt {
	t.Helper()
	s, err := kernel.Load(text)
	if err != api.OK {
		t.Fatalf("Load(%q): %d", text, err)
	}
	return s
}

// parse returns the statement of lines.
func parse(t *testing.T, text string) api.Stmt {
	t.Helper()
	s, err := kernel.Parse(text)
	if err != api.OK {
		t.Fatalf("Parse(%q): %d", text, err)
	}
	return s
}

// operations are layer 13's, by the layers of its list, with the number of arguments.
var operations = [][]api.Op{
	0: {
		{Name: "+", Args: 3}, {Name: "-", Args: 3}, {Name: "*", Args: 3}, {Name: "div", Args: 3},
		{Name: "mod", Args: 3}, {Name: "~", Args: 2}, {Name: "<", Args: 3}, {Name: "=<", Args: 3},
		{Name: ">", Args: 3}, {Name: ">=", Args: 3}, {Name: "==", Args: 3}, {Name: "\\=", Args: 3},
		{Name: "label", Args: 2}, {Name: "arity", Args: 2}, {Name: "width", Args: 2},
		{Name: "dot", Args: 3}, {Name: "has", Args: 3}, {Name: "parts", Args: 2},
		{Name: "adjoin", Args: 4}, {Name: "make", Args: 3}, {Name: "wait", Args: 1},
		{Name: "show", Args: 1}, {Name: "nomatch", Args: 1}, {Name: "domain", Args: 3},
		{Name: "post", Args: 4},
	},
	1: {},
	2: {{Name: "byneed", Args: 2}, {Name: "need", Args: 1}},
	3: {},
	4: {{Name: "newname", Args: 1}, {Name: "chunk", Args: 2}, {Name: "view", Args: 2}},
	5: {{Name: "port", Args: 2}, {Name: "send", Args: 2}},
	6: {
		{Name: "det", Args: 2}, {Name: "cell", Args: 2}, {Name: "get", Args: 2}, {Name: "set", Args: 2},
		{Name: "swap", Args: 3}, {Name: "lock", Args: 1}, {Name: "take", Args: 1},
		{Name: "give", Args: 1}, {Name: "dict", Args: 1}, {Name: "array", Args: 4},
		{Name: "put", Args: 3}, {Name: "remove", Args: 2}, {Name: "keys", Args: 2},
		{Name: "priority", Args: 1}, {Name: "self", Args: 1},
	},
	7: {
		{Name: "space", Args: 2}, {Name: "ask", Args: 2}, {Name: "commit", Args: 2},
		{Name: "clone", Args: 2}, {Name: "merge", Args: 2}, {Name: "inject", Args: 2},
		{Name: "kill", Args: 1},
	},
	8: {{Name: "fail", Args: 2}},
}

func call(o api.Op) api.Stmt {
	return api.Stmt{Do: "op", Name: o.Name, Args: []string{"A", "B", "C", "D"}[:o.Args]}
}

// TestOf: the layer of each operation, and of nothing else.
func TestOf(t *testing.T) {
	count := 0
	for layer, l := range operations {
		for _, o := range l {
			count++
			if got, err := needs.Of(o.Name); got != layer || err != api.OK {
				t.Errorf("P4.3: Of(%q): %d, %d; want %d", o.Name, got, err, layer)
			}
			if !kernel.Valid(call(o)) {
				t.Errorf("P4.3: %q is none of the kernel's operations", o.Name)
			}
		}
	}
	if count != 55 {
		t.Errorf("P4.3: %d operations", count)
	}
	for _, name := range []string{"", "Cell", "cells", "skip", "seq", "local", "eq", "rec", "proc", "thread", "try", "raise", "choice", "call", "andthen", "orelse", "=", "!!", "@", ":=", "0", "+ ", " +", "gett", "divide"} {
		if got, err := needs.Of(name); got != 0 || err != api.ErrNone {
			t.Errorf("P4.3: Of(%q): %d, %d", name, got, err)
		}
	}
}

// TestOperations: a program that does one operation needs its layer, and layer 0.
func TestOperations(t *testing.T) {
	for layer, l := range operations {
		want := []int{0, layer}
		if layer == 0 {
			want = want[:1]
		}
		for _, o := range l {
			if got, err := needs.Needs(call(o)); !slices.Equal(got, want) || err != api.OK {
				t.Errorf("P4.1: Needs of %s: %v, %d; want %v", o.Name, got, err, want)
			}
		}
	}
}

// statements are sources, the layers that they need, and what is promised of them.
var statements = []struct {
	text    string
	want    []int
	promise string
}{
	{"skip", []int{0}, "one result"},
	{"X = Y", []int{0}, "one result"},
	{"X = a(1 f:2 Y)", []int{0}, "one result"},
	{"if X == 1 then {Show X} else {F X} end", []int{0}, "one result"},
	{"case X of a(Y) then {F Y} [] 5 then skip end", []int{0}, "one result"},
	{"{Domain X 1 9} {Post a [X] [1] 5}", []int{0}, "one result"},
	{"thread skip end", []int{0, 1}, "one result"},
	{"local X Y in thread Y = X + 1 end X = 4 {Show Y} end", []int{0, 1}, "one result"},
	{"{Byneed P X}", []int{0, 2}, "one result"},
	{"{Need X}", []int{0, 2}, "one result"},
	{"thread {Need X} end", []int{0, 1, 2}, "one result"},
	{"fun lazy {F X} X + 1 end", []int{0, 2}, "one result"},
	{"raise a end", []int{0, 3}, "one result or an exception"},
	{"try skip catch X then skip end", []int{0, 3}, "one result or an exception"},
	{"try thread skip end catch X then skip end", []int{0, 1, 3}, "some result"},
	{"try {Need Y} catch X then skip end", []int{0, 2, 3}, "some result"},
	{"{Newname X}", []int{0, 4}, "some result"},
	{"X = !!Y", []int{0, 4}, "some result"},
	{"{Chunk X Y} raise X end", []int{0, 3, 4}, "some result"},
	{"{Port S P} {Send P 1}", []int{0, 5}, "some result"},
	{"X = @C", []int{0, 6}, "some result"},
	{"C := X", []int{0, 6}, "some result"},
	{"{Det X Y}", []int{0, 6}, "some result"},
	{"lock L then skip end", []int{0, 3, 6}, "some result"},
	{"choice skip end", []int{0, 7}, "some result"},
	{"choice {Fail E X} [] thread skip end end", []int{0, 1, 7, 8}, "some result"},
	{"{Space P S} {Ask S R}", []int{0, 7}, "some result"},
	{"{Fail E X}", []int{0, 8}, "some result"},
	{"if {Fail E} then {Newname X} else thread {Need C} {Cell 1 C} {Port A B} raise a end end choice skip end end", []int{0, 1, 2, 3, 4, 5, 6, 7, 8}, "some result"},
	// An operation's name that the program binds is no operation.
	{"local Cell in {Cell 0 C} end", []int{0}, "one result"},
	// Each part of a statement counts, whatever comes to pass.
	{"if false then raise a end end", []int{0, 3}, "one result or an exception"},
	{"case 1 of 2 then skip else thread skip end end", []int{0, 1}, "one result"},
	{"raise a end thread skip end", []int{0, 1, 3}, "some result"},
	{"try skip catch X then {Newname X} end", []int{0, 3, 4}, "some result"},
	{"for I in 1 at 2 do {Send P I} end", []int{0, 5}, "some result"},
	{"for each I in L do thread skip end end", []int{0, 1}, "one result"},
	{"L = [{Get C} for C in M if raise a end]", []int{0, 3, 6}, "some result"},
	// A procedure's body counts where it can be reached.
	{"local F in proc {F} thread skip end end end", []int{0}, "one result"},
	{"local F in proc {F} thread skip end end {F} end", []int{0, 1}, "one result"},
	{"proc {F} thread skip end end", []int{0, 1}, "one result"},
	{"local F G in proc {F} raise a end end proc {G} {F} end end", []int{0}, "one result"},
	{"local F G in proc {F} raise a end end proc {G} {F} end {G} end", []int{0, 3}, "one result or an exception"},
	{"X = proc {$} {Newname X} end", []int{0, 4}, "some result"},
	{"local L in L = [proc {$} {Newname _} end] end", []int{0, 4}, "some result"},
}

// TestNeeds: hand-made programs.
func TestNeeds(t *testing.T) {
	for _, c := range statements {
		s := load(t, c.text)
		got, err := needs.Needs(s)
		if !slices.Equal(got, c.want) || err != api.OK {
			t.Errorf("P4.1: Needs(%q): %v, %d; want %v", c.text, got, err, c.want)
		}
		if got, err := needs.Least(s); got != c.want[len(c.want)-1] || err != api.OK {
			t.Errorf("P4.1: Least(%q): %d, %d", c.text, got, err)
		}
		if got, err := needs.Promise(s); got != c.promise || err != api.OK {
			t.Errorf("P4.1: Promise(%q): %q, %d; want %q", c.text, got, err, c.promise)
		}
		for layer := -3; layer <= 70; layer++ {
			if got := needs.Without(s, layer); got == slices.Contains(c.want, layer) {
				t.Errorf("P4.1: Without(%q, %d): %v", c.text, layer, got)
			}
		}
	}
}

// TestPromises: each set of layers that a program can need has its promise.
func TestPromises(t *testing.T) {
	parts := []api.Stmt{
		{Do: "skip"},
		{Do: "thread", Kids: []api.Stmt{{Do: "skip"}}},
		{Do: "op", Name: "need", Args: []string{"X"}},
		{Do: "raise", Args: []string{"X"}},
		{Do: "op", Name: "newname", Args: []string{"X"}},
		{Do: "op", Name: "port", Args: []string{"X", "Y"}},
		{Do: "op", Name: "self", Args: []string{"X"}},
		{Do: "choice", Kids: []api.Stmt{{Do: "skip"}}},
		{Do: "op", Name: "fail", Args: []string{"X", "Y"}},
	}
	for set := range 1 << 8 {
		s := api.Stmt{Do: "seq", Kids: []api.Stmt{parts[0], parts[0]}}
		layers := []int{0}
		for layer := 1; layer <= 8; layer++ {
			if set>>(layer-1)&1 == 1 {
				s.Kids = append(s.Kids, parts[layer])
				layers = append(layers, layer)
			}
		}
		want := "some result"
		switch set {
		case 0, 0b1, 0b10, 0b11:
			want = "one result"
		case 0b100:
			want = "one result or an exception"
		}
		if got, err := needs.Promise(s); got != want || err != api.OK {
			t.Errorf("P4.1: Promise of layers %v: %q, %d; want %q", layers, got, err, want)
		}
		if got, _ := needs.Needs(s); !slices.Equal(got, layers) {
			t.Errorf("P4.1: Needs of layers %v: %v", layers, got)
		}
	}
}

// invalid are statements that are not valid.
func invalid() []api.Stmt {
	deep := api.Stmt{Do: "skip"}
	for range api.MaxNest {
		deep = api.Stmt{Do: "thread", Kids: []api.Stmt{deep}}
	}
	wide := api.Stmt{Do: "seq", Kids: slices.Repeat([]api.Stmt{{Do: "skip"}}, api.MaxTree)}
	cycle := api.Stmt{Do: "seq", Kids: make([]api.Stmt, 2)}
	cycle.Kids[0], cycle.Kids[1] = cycle, cycle
	shared := api.Stmt{Do: "skip"}
	for range 60 {
		shared = api.Stmt{Do: "seq", Kids: []api.Stmt{{Do: "thread", Kids: []api.Stmt{shared}}, {Do: "thread", Kids: []api.Stmt{shared}}}}
	}
	return []api.Stmt{
		{}, {Do: "Skip"}, {Do: "seq"}, {Do: "seq", Kids: []api.Stmt{{Do: "skip"}}}, {Do: "thread"},
		{Do: "op", Name: "cells", Args: []string{"X", "Y"}}, {Do: "op", Name: "cell", Args: []string{"X"}},
		{Do: "op", Args: []string{"X"}}, {Do: "call"}, {Do: "proc"}, {Do: "try", Args: []string{"X"}},
		{Do: "case", Args: []string{"X"}, Name: "a"}, {Do: "local", Args: []string{"X"}},
		{Do: "raise", Args: []string{"x"}}, {Do: "raise", Args: []string{""}}, {Do: "choice"},
		{Do: "local", Args: []string{"X", "X"}, Kids: []api.Stmt{{Do: "skip"}}},
		{Do: "thread", Kids: []api.Stmt{{Do: "raise"}}},
		deep, wide, cycle, shared,
	}
}

// TestErrors: what is not valid, or cannot be renamed.
func TestErrors(t *testing.T) {
	for i, s := range invalid() {
		if l, err := needs.Needs(s); l != nil || err != api.ErrKernel {
			t.Errorf("P4.1: Needs of %d: %v, %d", i, l, err)
		}
		if n, err := needs.Least(s); n != 0 || err != api.ErrKernel {
			t.Errorf("P4.1: Least of %d: %v, %d", i, n, err)
		}
		if p, err := needs.Promise(s); p != "" || err != api.ErrKernel {
			t.Errorf("P4.1: Promise of %d: %q, %d", i, p, err)
		}
		for layer := -1; layer <= 9; layer++ {
			if needs.Without(s, layer) {
				t.Errorf("P4.1: Without of %d, %d", i, layer)
			}
		}
		checkNames(t, s, api.ErrKernel)
	}
	free := load(t, "local F in proc {F} skip end {F} end")
	free.Kids[0].Kids[1].Args = []string{"F", "_1"}
	checkNames(t, free, api.ErrForm)
	if l, err := needs.Needs(free); !slices.Equal(l, []int{0}) || err != api.OK {
		t.Errorf("P4.1: Needs with a new variable that is free: %v, %d", l, err)
	}
}

// checkNames checks that what goes over Rename returns its error.
func checkNames(t *testing.T, s api.Stmt, want api.Errno) {
	t.Helper()
	if l, err := needs.Reached(s); len(l) != 0 || err != want {
		t.Errorf("P4.2: Reached: %v, %d; want %d", l, err, want)
	}
	if l, err := needs.Known(s); len(l) != 0 || err != want {
		t.Errorf("P4.2: Known: %v, %d; want %d", l, err, want)
	}
	if l, err := needs.Calls(s); len(l) != 0 || err != want {
		t.Errorf("P4.2: Calls: %v, %d; want %d", l, err, want)
	}
}
