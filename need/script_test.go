package need_test

import (
	"fmt"
	"strconv"
	"strings"
	"testing"

	"manystrand/api"
	"manystrand/domain"
	"manystrand/graph"
	"manystrand/need"
	"manystrand/store"
)

// parsed reads the text of a graph.
func parsed(text string) api.Graph {
	g, err := graph.Parse(text)
	if err != api.OK {
		panic(text)
	}
	return g
}

// dom reads the text of a domain.
func dom(text string) [][2]int {
	d, err := domain.Parse(text)
	if err != api.OK {
		panic(text)
	}
	return d
}

// making returns a table beside a store with variables, one after the other: `free`, `in 1#5`, or the text
// of a graph that is put.
func making(t *testing.T, parts ...string) *need.Table {
	t.Helper()
	s := store.New()
	for _, part := range parts {
		grow(s, part)
	}
	tb, err := need.New(s)
	if err != api.OK || tb.Store() != s {
		t.Fatalf("P10.1: New: %d", err)
	}
	return tb
}

func grow(s *store.Store, part string) {
	d, isRanged := strings.CutPrefix(part, "in ")
	if !isRanged && part != "free" {
		if _, err := s.Put(parsed(part)); err != api.OK {
			panic(part)
		}
		return
	}
	x, _ := s.Var()
	if isRanged {
		s.Tell(x, dom(d))
	}
}

// free returns that many parts that are free variables.
func free(n int) (l []string) {
	for range n {
		l = append(l, "free")
	}
	return l
}

// does makes a call, as `unify 1 2`, and returns what comes of it; numbers name variables. A call with an
// error must change nothing and return nothing else.
func does(t *testing.T, tb *need.Table, call string) string {
	t.Helper()
	ahead := tb.Copy()
	got, rest, err := result(tb, call)
	if err == api.OK {
		return got
	}
	if !need.Same(ahead, tb) || fmt.Sprint(ahead.Triggers()) != fmt.Sprint(tb.Triggers()) {
		t.Errorf("R3: %s: error %d, but something is changed", call, err)
	}
	if rest {
		t.Errorf("R2: %s: error %d, but also %s", call, err, got)
	}
	return fmt.Sprint("error ", int(err))
}

// result returns what a call returns: as a text, whether anything of it but the error is not zero, and the
// error.
func result(tb *need.Table, call string) (got string, rest bool, err api.Errno) {
	word, args, _ := strings.Cut(call, " ")
	var x, y int
	if l := strings.Fields(args); len(l) > 0 && word != "put" {
		x, _ = strconv.Atoi(l[0])
		y, _ = strconv.Atoi(l[len(l)-1])
	}
	var touched, fired []int
	var n int
	switch word {
	case "by":
		fired, err = tb.By(x, y)
		return fmt.Sprint(fired), fired != nil, err
	case "need":
		fired, err = tb.Need(x)
		return fmt.Sprint(fired), fired != nil, err
	case "view":
		n, err = tb.View(x)
		return fmt.Sprint(n), n != 0, err
	case "fail":
		return "done", false, tb.Fail(x, y)
	case "unify":
		touched, fired, err = tb.Unify(x, y)
		return fmt.Sprint(touched, " ", fired), touched != nil || fired != nil, err
	case "waits":
		n, err = tb.Waits(x)
		return fmt.Sprint(n), n != 0, err
	}
	return tells(tb, word, args, x), false, api.OK
}

// tells returns what a call tells that has no error.
func tells(tb *need.Table, word, args string, x int) string {
	s := tb.Store()
	switch word {
	case "needed":
		return fmt.Sprint(tb.Needed(x))
	case "failed":
		with, is := tb.Failed(x)
		return fmt.Sprint(with, " ", is)
	case "triggers":
		return fmt.Sprint(tb.Triggers())
	case "itself":
		return fmt.Sprint(s.Itself(x))
	case "text":
		g, _ := s.Graph(x)
		text, _ := graph.Text(g)
		return text
	case "put":
		grow(s, args)
		return "done"
	case "tell":
		_, text, _ := strings.Cut(args, " ")
		s.Tell(x, dom(text))
		return "done"
	}
	panic(word)
}

// A script is a table, and calls with what each must do: `unify 1 2: [1] [7]`.
type script struct {
	name  string
	parts []string
	lines []string
}

func play(t *testing.T, promise string, scripts []script) {
	t.Helper()
	for _, c := range scripts {
		tb := making(t, c.parts...)
		for i, line := range c.lines {
			call, want, _ := strings.Cut(line, ": ")
			if got := does(t, tb, call); got != want {
				t.Errorf("%s: %s: line %d: %s: %s, not %s", promise, c.name, i+1, call, got, want)
			}
		}
	}
}
