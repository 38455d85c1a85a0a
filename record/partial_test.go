package record_test

import (
	"fmt"
	"math"
	"strings"
	"testing"

	"manystrand/api"
	"manystrand/record"
)

// tell tells one thing, written as `label f`, `has 1`, `lacks a`, `width 2`.
func tell(p *record.Partial, thing string) api.Errno {
	kind, is, _ := strings.Cut(thing, " ")
	switch kind {
	case "label":
		return p.Tell(kind, is, api.Feat{}, 0)
	case "width":
		return p.Tell(kind, "", api.Feat{}, feat(is).N)
	}
	return p.Tell(kind, "", feat(is), 0)
}

// telling returns a partial record of which things, with commas between, are told.
func telling(t *testing.T, things string) *record.Partial {
	t.Helper()
	p := record.New()
	for _, thing := range split(things) {
		if err := tell(p, thing); err != api.OK {
			t.Fatalf("P9.2: %s: Tell(%s): %d", things, thing, err)
		}
	}
	return p
}

func split(things string) []string {
	if things == "" {
		return nil
	}
	return strings.Split(things, ", ")
}

// state returns all that is to be seen of a partial record, of features those of a list.
func state(p *record.Partial, l []api.Feat) string {
	var b strings.Builder
	g, err := p.Known()
	fmt.Fprint(&b, p.Closed(), g, err, p.Features())
	for _, f := range l {
		fmt.Fprint(&b, " ", p.Has(f))
	}
	return b.String()
}

func TestTell(t *testing.T) {
	for _, c := range []struct {
		things, thing string
		want          api.Errno
	}{
		{"", "label f", api.OK},
		{"", "label ", api.OK},
		{"label f", "label f", api.OK},
		{"label f", "label g", api.ErrFail},
		{"label f", "label ", api.ErrFail},
		{"label ", "label f", api.ErrFail},
		{"", "has 1", api.OK},
		{"has 1", "has 1", api.OK},
		{"has 1", "lacks 1", api.ErrFail},
		{"has 1", "lacks 2", api.OK},
		{"has a", "lacks b", api.OK},
		{"lacks a", "has a", api.ErrFail},
		{"lacks a", "lacks a", api.OK},
		{"lacks a", "has b", api.OK},
		{"", "width 0", api.OK},
		{"", "width 1000", api.OK},
		{"width 2", "width 2", api.OK},
		{"width 2", "width 3", api.ErrFail},
		{"width 2", "width 1", api.ErrFail},
		{"width 0", "width 1", api.ErrFail},
		{"width 0", "has a", api.ErrFail},
		{"width 0", "lacks a", api.OK},
		{"has a", "width 0", api.ErrFail},
		{"has a", "width 1", api.OK},
		{"has a, has 1", "width 1", api.ErrFail},
		{"has a, has 1", "width 2", api.OK},
		{"width 1, has a", "has b", api.ErrFail},
		{"width 1, has a", "has a", api.OK},
		{"width 1, has a", "lacks b", api.OK},
		{"width 1, has a", "lacks a", api.ErrFail},
		{"lacks b, width 1, has a", "lacks c", api.OK},
		{"lacks b, width 1, has a", "has b", api.ErrFail},
		{"lacks a, lacks b, lacks c", "width 1", api.OK},
	} {
		l := feats("1 2 a b c")
		p := telling(t, c.things)
		same, before := p.Copy(), state(p, l)
		if err := tell(p, c.thing); err != c.want {
			t.Errorf("P9.2: %s: Tell(%s): %d", c.things, c.thing, err)
		}
		if c.want != api.OK && (!record.Same(p, same) || state(p, l) != before) {
			t.Errorf("P9.2: %s: a Tell(%s) that fails changes something", c.things, c.thing)
		}
	}
}

func TestTellOfNone(t *testing.T) {
	p := telling(t, "label f, has 1, lacks 2, width 2")
	same := p.Copy()
	check := func(kind, text string, f api.Feat, n int) {
		t.Helper()
		for _, p := range []*record.Partial{p, record.New()} {
			if err := p.Tell(kind, text, f, n); err != api.ErrArg {
				t.Errorf("P9.2: Tell(%q, %q, %v, %d): %d", kind, text, f, n, err)
			}
		}
		if !record.Same(p, same) {
			t.Errorf("P9.2: Tell(%q, %q, %v, %d) changes something", kind, text, f, n)
		}
	}
	for _, kind := range []string{"", "Label", "arity", "labels", "has ", "lack", "WIDTH"} {
		check(kind, "f", api.Feat{N: 1}, 2)
	}
	for _, label := range noLabels {
		check("label", label, api.Feat{N: 1}, 2)
	}
	for _, f := range noFeats {
		check("has", "f", f, 2)
		check("lacks", "f", f, 2)
	}
	for _, n := range []int{-1, api.MaxFeat + 1, math.MinInt, math.MaxInt} {
		check("width", "f", api.Feat{N: 1}, n)
	}
}

// TestOnlyWhatIsNamed: of a kind's arguments only those that it names are looked at.
func TestOnlyWhatIsNamed(t *testing.T) {
	p := record.New()
	bad := api.Feat{N: -1, Text: "\t"}
	for _, err := range []api.Errno{
		p.Tell("label", "f", bad, -1),
		p.Tell("has", "\t", feat("a"), -1),
		p.Tell("lacks", "\t", feat("b"), -1),
		p.Tell("width", "\t", bad, 2),
	} {
		if err != api.OK {
			t.Errorf("P9.2: Tell: %d", err)
		}
	}
	if !record.Same(p, telling(t, "label f, has a, lacks b, width 2")) {
		t.Errorf("P9.2: Tell: %s", state(p, feats("a b")))
	}
}

func TestKnown(t *testing.T) {
	for _, c := range []struct {
		things   string
		isClosed bool
		known    string
		features string
	}{
		{"", false, errNone, ""},
		{"label f", false, errNone, ""},
		{"label f, width 1", false, errNone, ""},
		{"label f, has 1", false, errNone, "1"},
		{"label f, lacks 1", false, errNone, ""},
		{"width 0", true, errNone, ""},
		{"width 0, label f", true, "f", ""},
		{"width 0, label ", true, "''", ""},
		{"has 1, width 1", true, errNone, "1"},
		{"has b, has 10, has a, has 9, width 5, label f", false, errNone, "9 10 a b"},
		{"has b, has 10, has a, has 9, width 4, label f", true, "f(9:_1 10:_2 a:_3 b:_4)", "9 10 a b"},
		{"width 2, lacks 3, has 2, label |, has 1", true, "(_1|_2)", "1 2"},
	} {
		p := telling(t, c.things)
		if p.Closed() != c.isClosed {
			t.Errorf("P9.2: %s: Closed: %v", c.things, p.Closed())
		}
		g, err := p.Known()
		if text := said(t, g, err); text != c.known {
			t.Errorf("P9.2: %s: Known: %s", c.things, text)
		}
		if l := p.Features(); fmt.Sprint(l) != fmt.Sprint(feats(c.features)) {
			t.Errorf("P9.2: %s: Features: %v", c.things, l)
		}
	}
	p := telling(t, "label f, width 1000")
	for _, f := range many(1000) {
		p.Tell("has", "", f, 0)
	}
	if g, err := p.Known(); !p.Closed() || said(t, g, err) != errLimit {
		t.Errorf("P9.2: Known of too many parts: %d", err)
	}
}

func TestHas(t *testing.T) {
	for _, c := range []struct {
		things string
		want   string // of 1, 2, a, b
	}{
		{"", "-1 -1 -1 -1"},
		{"has 1, has a", "1 -1 1 -1"},
		{"has 1, lacks a", "1 -1 0 -1"},
		{"width 2, has 1", "1 -1 -1 -1"},
		{"width 2, has 1, lacks 2", "1 0 -1 -1"},
		{"width 2, has 1, lacks 2, has b", "1 0 0 1"},
		{"width 0", "0 0 0 0"},
	} {
		p := telling(t, c.things)
		var l []string
		for _, f := range feats("1 2 a b") {
			l = append(l, fmt.Sprint(p.Has(f)))
		}
		if got := strings.Join(l, " "); got != c.want {
			t.Errorf("P9.2: %s: Has: %s", c.things, got)
		}
	}
	for _, f := range append(noFeats, api.Feat{}, api.Feat{N: math.MinInt}) {
		if is := telling(t, "has 1, lacks a").Has(f); is != -1 {
			t.Errorf("P9.2: Has(%v): %d", f, is)
		}
		if is := telling(t, "has 1, width 1").Has(f); is != 0 {
			t.Errorf("P9.2: a closed one: Has(%v): %d", f, is)
		}
	}
}

func TestFits(t *testing.T) {
	for _, c := range []struct {
		things, text string
		want         int
	}{
		{"", "a", -1},
		{"", "f(1:2)", -1},
		{"label f", "f", -1},
		{"label f", "f(1:a)", -1},
		{"label f", "g", 0},
		{"label ", "f", 0},
		{"label ", "''", -1},
		{"has 1", "f(1:a)", -1},
		{"has 1", "f(2:a)", 0},
		{"has 1", "f", 0},
		{"lacks 1", "f(1:a)", 0},
		{"lacks 1", "f(2:a)", -1},
		{"width 1", "f(a:1)", -1},
		{"width 1", "f", 0},
		{"width 1", "f(a:1 b:2)", 0},
		{"width 0", "f", -1},
		{"width 1, has a", "f(a:1)", -1},
		{"width 1, has a", "f(b:1)", 0},
		{"width 1, has a, label f", "f(a:g)", 1},
		{"width 1, has a, label f", "f(b:g)", 0},
		{"width 1, has a, label f", "g(a:g)", 0},
		{"width 1, has a, label f", "f(a:g b:g)", 0},
		{"width 1, has a, label f", "f", 0},
		{"width 0, label f", "f", 1},
		{"width 0, label f", "f(1:2)", 0},
		{"width 2, has 1, label f", "f(1:2 3:4)", -1},
		{"width 2, has 1, label f, lacks 3", "f(1:2 3:4)", 0},
		{"width 2, has 1, has 2, label |", "C1=(1|C1)", 1},
	} {
		p := telling(t, c.things)
		if is := p.Fits(parsed(c.text)); is != c.want {
			t.Errorf("P9.2: %s: Fits(%s): %d", c.things, c.text, is)
		}
	}
	for _, things := range []string{"", "label f", "width 0", "label f, width 0"} {
		for _, text := range noRecords {
			if is := telling(t, things).Fits(parsed(text)); is != 0 {
				t.Errorf("P9.2: %s: Fits(%s): %d", things, text, is)
			}
		}
		for _, g := range []api.Graph{{}, noGraph, {Nodes: []api.Node{{Kind: "rec", Text: "f"}}, Root: 1}} {
			if is := telling(t, things).Fits(g); is != 0 {
				t.Errorf("P9.2: %s: Fits of no graph: %d", things, is)
			}
		}
	}
}

func TestJoin(t *testing.T) {
	for _, c := range []struct{ p, q, want string }{ // - : it fails
		{"", "", ""},
		{"label f", "", "label f"},
		{"", "label f", "label f"},
		{"label f", "label g", "-"},
		{"label f, has 1, lacks 2", "has a, lacks b", "label f, has 1, lacks 2, has a, lacks b"},
		{"has 1", "lacks 1", "-"},
		{"lacks 1", "has 1", "-"},
		{"width 1", "width 2", "-"},
		{"width 2", "has 1, has a", "width 2, has 1, has a"},
		{"has 1, has a", "width 2", "width 2, has 1, has a"},
		{"has 1, has a", "width 1", "-"},
		{"width 1", "has 1, has a", "-"},
		{"has 1, width 2", "has 2, width 2", "has 1, has 2, width 2"},
		{"has 1, width 1", "has 2, width 1", "-"},
		{"has 1, width 1", "has 1, width 1", "has 1, width 1"},
		{"has 1, width 1", "lacks 2", "has 1, width 1"},
		{"has 1, width 2", "has 2, lacks 3", "has 1, has 2, width 2"},
		{"has 1, width 1", "has 1, lacks 2, label f", "has 1, width 1, label f"},
		{"label f, has 1, has 2", "has 2, has 3, has 4, width 3", "-"},
		{"label f, has 1, has 2", "label f, has 2, has 3, has 4, width 4", "label f, has 1, has 2, has 3, has 4, width 4"},
	} {
		p, q := telling(t, c.p), telling(t, c.q)
		was, same := p.Copy(), q.Copy()
		err := p.Join(q)
		switch {
		case !record.Same(q, same):
			t.Errorf("P9.2: %s, Join(%s) changes the latter", c.p, c.q)
		case c.want == "-" && (err != api.ErrFail || !record.Same(p, was)):
			t.Errorf("P9.2: %s, Join(%s): %d", c.p, c.q, err)
		case c.want != "-" && (err != api.OK || !record.Same(p, telling(t, c.want))):
			t.Errorf("P9.2: %s, Join(%s): %d, %s", c.p, c.q, err, state(p, feats("1 2 3 4 a b")))
		}
	}
	p := telling(t, "label f, has 1, lacks 2, width 3")
	same := p.Copy()
	if err := p.Join(p); err != api.OK || !record.Same(p, same) {
		t.Errorf("P9.2: Join of itself: %d", err)
	}
}

func TestSame(t *testing.T) {
	groups := [][]string{ // those of a group are the same
		{""},
		{"label f"},
		{"label "},
		{"label g"},
		{"width 0", "width 0, lacks 1", "lacks a, width 0"},
		{"width 1"},
		{"width 2"},
		{"has 1"},
		{"lacks 1"},
		{"has 1, lacks 2", "lacks 2, has 1"},
		{"has 1, lacks a"},
		{"has 1, width 1", "width 1, has 1", "width 1, lacks 2, has 1", "lacks a, lacks b, has 1, width 1, lacks c"},
		{"has 2, width 1"},
		{"has 1, width 2"},
		{"has 1, width 2, lacks 2", "lacks 2, width 2, has 1, lacks 2"},
		{"has 1, width 1, label f"},
	}
	for i, a := range groups {
		for k, b := range groups {
			for _, x := range a {
				for _, y := range b {
					if record.Same(telling(t, x), telling(t, y)) != (i == k) {
						t.Errorf("P9.2: Same of %q and %q: %v", x, y, i != k)
					}
				}
			}
		}
	}
}

func TestCopy(t *testing.T) {
	for _, things := range []string{"", "label f, has 1, lacks 2, width 3", "has 1, width 1"} {
		p := telling(t, things)
		q := p.Copy()
		if !record.Same(p, q) {
			t.Errorf("R7: %s: Copy is another one", things)
		}
		for _, pair := range [][2]*record.Partial{{p, q}, {q, q.Copy()}} {
			same := pair[1].Copy()
			for _, thing := range []string{"label f", "has 1", "lacks 9", "lacks 8", "has 3", "width 3"} {
				tell(pair[0], thing)
			}
			if !record.Same(pair[1], same) {
				t.Errorf("R7: %s: what is told of one is told of its copy", things)
			}
		}
	}
}

// TestJoinKeepsNothing: what is told of one later is not told of the other one.
func TestJoinKeepsNothing(t *testing.T) {
	p, q := record.New(), telling(t, "has 1, lacks 2")
	p.Join(q)
	tell(q, "has 3")
	tell(q, "lacks 4")
	tell(p, "has 5")
	if !record.Same(p, telling(t, "has 1, lacks 2, has 5")) || !record.Same(q, telling(t, "has 1, lacks 2, has 3, lacks 4")) {
		t.Errorf("R4: Join keeps what it is given")
	}
	l := q.Features()
	l[0] = feat("9")
	if q.Has(feat("1")) != 1 || q.Has(feat("9")) != -1 {
		t.Errorf("R4: Features shares memory with the record")
	}
}

// TestNone: nil ones, and those that New did not make.
func TestNone(t *testing.T) {
	p := telling(t, "label f, width 0")
	for _, none := range []*record.Partial{nil, new(record.Partial)} {
		for name, err := range map[string]api.Errno{
			"Tell":           none.Tell("label", "f", api.Feat{}, 0),
			"Tell of none":   none.Tell("what", "", api.Feat{}, -1),
			"Join":           none.Join(p),
			"Join with none": p.Join(none),
			"Join of nones":  none.Join(none),
		} {
			if err != api.ErrNil {
				t.Errorf("P9.2: %s: %d", name, err)
			}
		}
		if g, err := none.Known(); err != api.ErrNil || g.Nodes != nil {
			t.Errorf("P9.2: Known: %v, %d", g, err)
		}
		if none.Closed() || none.Has(feat("1")) != -1 || none.Features() != nil || none.Copy() != nil {
			t.Errorf("R7: something is known of none")
		}
		for _, g := range []api.Graph{parsed("f"), parsed("5"), noGraph} {
			if is := none.Fits(g); is != -1 {
				t.Errorf("P9.2: Fits: %d", is)
			}
		}
		if record.Same(none, p) || record.Same(p, none) || record.Same(none, none) || record.Same(none, nil) || record.Same(none, record.New()) {
			t.Errorf("P9.2: Same of none")
		}
	}
	if !record.Same(p, telling(t, "label f, width 0")) {
		t.Errorf("R3: a call with none changes something")
	}
	if p := record.New(); p == nil || p.Closed() || p.Has(feat("1")) != -1 || len(p.Features()) > 0 {
		t.Errorf("P9.2: something is known of a new one")
	}
}
