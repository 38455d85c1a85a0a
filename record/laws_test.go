package record_test

import (
	"fmt"
	"math/rand"
	"reflect"
	"slices"
	"strings"
	"testing"

	"manystrand/api"
	"manystrand/graph"
	"manystrand/record"
	"manystrand/tree"
)

// A maker makes random things.
type maker struct{ *rand.Rand }

func newMaker(seed int64) maker { return maker{rand.New(rand.NewSource(seed))} }

func pick[T any](m maker, l ...T) T { return l[m.Intn(len(l))] }

func (m maker) feat() api.Feat { return feat(pick(m, "1", "2", "10", "a", "b", "B")) }

// feats returns some features in their order, each once.
func (m maker) feats() (l []api.Feat) {
	for _, f := range feats("1 2 10 B a b") {
		if m.Intn(3) == 0 {
			l = append(l, f)
		}
	}
	return l
}

// graph returns a graph of a few nodes, some of which are equal, or not reached.
func (m maker) graph() api.Graph {
	count := 1 + m.Intn(7)
	g := api.Graph{Root: m.Intn(count)}
	for range count {
		n := api.Node{Kind: "rec", Text: pick(m, "f", "g", "#")}
		switch m.Intn(8) {
		case 0:
			n = api.Node{Kind: "int", N: m.Intn(2)}
		case 1:
			n = api.Node{Kind: "var", N: 1 + m.Intn(2)}
		case 2:
			n = api.Node{Kind: "ref", Text: pick(m, "cell", "name"), N: 1}
		default:
			n.Feats = m.feats()
			for range n.Feats {
				n.Kids = append(n.Kids, m.Intn(count))
			}
		}
		g.Nodes = append(g.Nodes, n)
	}
	return g
}

// record returns a graph whose Root is a record.
func (m maker) record() api.Graph {
	for {
		if g := m.graph(); g.Nodes[g.Root].Kind == "rec" {
			return g
		}
	}
}

// A view shows what is found at a path of a tree: a node of which the Kids do not matter.
type view func(path []api.Feat) api.Node

// seen returns the view of a graph.
func seen(g api.Graph) view {
	return func(path []api.Feat) api.Node {
		n := g.Nodes[g.Root]
		for _, f := range path {
			n = g.Nodes[n.Kids[slices.Index(n.Feats, f)]]
		}
		return n
	}
}

// compared orders two features, which differ.
func compared(a, b api.Feat) int {
	if tree.Less(a, b) {
		return -1
	}
	return 1
}

// made returns the view of a record that is made of others.
func made(label string, parts map[api.Feat]view) view {
	return func(path []api.Feat) api.Node {
		if len(path) > 0 {
			return parts[path[0]](path[1:])
		}
		n := api.Node{Kind: "rec", Text: label}
		for f := range parts {
			n.Feats = append(n.Feats, f)
		}
		slices.SortFunc(n.Feats, compared)
		return n
	}
}

// below returns the views of a record's parts.
func below(g api.Graph) map[api.Feat]view {
	parts := map[api.Feat]view{}
	for i, f := range g.Nodes[g.Root].Feats {
		parts[f] = seen(api.Graph{Root: g.Nodes[g.Root].Kids[i], Nodes: g.Nodes})
	}
	return parts
}

// differ returns a path of at most so many steps at which two views differ.
func differ(a, b view, path []api.Feat, deep int) ([]api.Feat, bool) {
	x, y := a(path), b(path)
	if x.Kind != y.Kind || x.N != y.N || x.Text != y.Text || !slices.Equal(x.Feats, y.Feats) {
		return path, true
	}
	for _, f := range x.Feats {
		if deep == 0 {
			break
		}
		if p, is := differ(a, b, append(slices.Clone(path), f), deep-1); is {
			return p, true
		}
	}
	return nil, false
}

// hold holds a result against a view of it.
func hold(t *testing.T, what string, g api.Graph, err api.Errno, want view) {
	t.Helper()
	said(t, g, err)
	if err != api.OK {
		t.Fatalf("P9.1: %s: %d", what, err)
	}
	if path, is := differ(seen(g), want, nil, 4); is {
		t.Fatalf("P9.1: %s: another one at %v: %v", what, path, g)
	}
}

// TestByViews: each operation makes the tree that the chapter says.
func TestByViews(t *testing.T) {
	m := newMaker(9)
	for range 2000 {
		g, h, v, f := m.record(), m.record(), m.graph(), m.feat()
		label := g.Nodes[g.Root].Text

		parts := below(g)
		part, has := parts[f]
		r, err := record.Dot(g, f)
		if has {
			hold(t, fmt.Sprintf("Dot(%v, %v)", g, f), r, err, part)
		} else if err != api.ErrNone {
			t.Fatalf("P9.1: Dot(%v, %v): %d", g, f, err)
		}

		delete(parts, f)
		r, err = record.Subtract(g, f)
		if has {
			hold(t, fmt.Sprintf("Subtract(%v, %v)", g, f), r, err, made(label, parts))
		} else if err != api.ErrNone {
			t.Fatalf("P9.1: Subtract(%v, %v): %d", g, f, err)
		}

		parts[f] = seen(v)
		r, err = record.Adjoin(g, f, v)
		hold(t, fmt.Sprintf("Adjoin(%v, %v, %v)", g, f, v), r, err, made(label, parts))

		parts = below(g)
		for f, part := range below(h) {
			parts[f] = part
		}
		r, err = record.AdjoinAll(g, h)
		hold(t, fmt.Sprintf("AdjoinAll(%v, %v)", g, h), r, err, made(h.Nodes[h.Root].Text, parts))

		r, err = record.Tuple("|", []api.Graph{v, g, v})
		hold(t, fmt.Sprintf("Tuple of %v, %v", v, g), r, err, made("|", map[api.Feat]view{feat("1"): seen(v), feat("2"): seen(g), feat("3"): seen(v)}))

		l, err := record.Parts(g)
		parts = below(g)
		if len(l) != len(parts) || err != api.OK {
			t.Fatalf("P9.1: Parts(%v): %v, %d", g, l, err)
		}
		for i, f := range g.Nodes[g.Root].Feats {
			hold(t, fmt.Sprintf("Parts(%v) at %v", g, f), l[i], api.OK, parts[f])
		}
	}
}

// equal reports whether a result is the least graph of another one.
func equal(r api.Graph, err api.Errno, g api.Graph) bool {
	least, _ := graph.Least(g)
	return err == api.OK && reflect.DeepEqual(r, least)
}

// TestLaws: P9.3.
func TestLaws(t *testing.T) {
	m := newMaker(93)
	for range 3000 {
		g, h, v, f := m.record(), m.record(), m.graph(), m.feat()
		with, _ := record.Adjoin(g, f, v)
		if r, err := record.Dot(with, f); !equal(r, err, v) {
			t.Fatalf("P9.3: Dot of Adjoin(%v, %v, %v): %v, %d", g, f, v, r, err)
		}
		if r, err := record.Subtract(with, f); !slices.Contains(g.Nodes[g.Root].Feats, f) && !equal(r, err, g) {
			t.Fatalf("P9.3: Subtract of Adjoin(%v, %v, %v): %v, %d", g, f, v, r, err)
		}
		if r, err := record.AdjoinAll(g, g); !equal(r, err, g) {
			t.Fatalf("P9.3: AdjoinAll of %v and itself: %v, %d", g, r, err)
		}
		one, _ := record.AdjoinAll(g, h)
		two, _ := record.Adjoin(g, f, v)
		for _, r := range []api.Graph{g, one, two} {
			l, _ := record.Arity(r)
			if !slices.IsSortedFunc(l, compared) {
				t.Fatalf("P9.3: Arity of %v: %v", r, l)
			}
		}
		label, _ := record.Label(g)
		l, _ := record.Arity(g)
		again, err := record.Make(label, l)
		parts, _ := record.Parts(g)
		for i := range l {
			again, err = record.Adjoin(again, l[i], parts[i])
		}
		if !equal(again, err, g) {
			t.Fatalf("P9.1: made of its parts again: %v, %d instead of %v", again, err, g)
		}
	}
}

// Notes are the things that are told of a record, in any order, by themselves.
type notes []note

type note struct {
	kind, text string
	f          api.Feat
	n          int
}

// note returns a thing that may be told.
func (m maker) note() note {
	switch m.Intn(6) {
	case 0:
		return note{kind: "label", text: pick(m, "f", "g", "")}
	case 1:
		return note{kind: "width", n: m.Intn(4)}
	case 2:
		return note{kind: "lacks", f: feat(pick(m, "1", "2", "a", "b"))}
	}
	return note{kind: "has", f: feat(pick(m, "1", "2", "a", "b"))}
}

func (n note) tell(p *record.Partial) api.Errno { return p.Tell(n.kind, n.text, n.f, n.n) }

func (l notes) has(f api.Feat) bool   { return slices.Contains(l, note{kind: "has", f: f}) }
func (l notes) lacks(f api.Feat) bool { return slices.Contains(l, note{kind: "lacks", f: f}) }

// first returns the first note of a kind.
func (l notes) first(kind string) (note, bool) {
	i := slices.IndexFunc(l, func(n note) bool { return n.kind == kind })
	if i < 0 {
		return note{}, false
	}
	return l[i], true
}

// count returns how many features it is told to have.
func (l notes) count() int {
	known := map[api.Feat]bool{}
	for _, n := range l {
		if n.kind == "has" {
			known[n.f] = true
		}
	}
	return len(known)
}

// fails reports whether the notes cannot be of one record, as the chapter says it.
func (l notes) fails() bool {
	for _, n := range l {
		one, _ := l.first(n.kind)
		switch n.kind {
		case "label":
			if n.text != one.text {
				return true
			}
		case "has":
			if l.lacks(n.f) {
				return true
			}
		case "width":
			if n.n != one.n || l.count() > n.n {
				return true
			}
		}
	}
	return false
}

func (l notes) closed() bool {
	width, told := l.first("width")
	return told && width.n == l.count()
}

func (l notes) hasOrLacks(f api.Feat) int {
	switch {
	case l.has(f):
		return 1
	case l.closed() || l.lacks(f):
		return 0
	}
	return -1
}

func (l notes) known() bool {
	_, told := l.first("label")
	return told && l.closed()
}

func (l notes) fits(g api.Graph) int {
	root := g.Nodes[g.Root]
	if root.Kind != "rec" {
		return 0
	}
	with := append(slices.Clone(l), note{kind: "label", text: root.Text}, note{kind: "width", n: len(root.Feats)})
	for _, f := range root.Feats {
		with = append(with, note{kind: "has", f: f})
	}
	switch {
	case with.fails():
		return 0
	case l.known():
		return 1
	}
	return -1
}

// allFeats are the features that notes are of, and another one.
func allFeats() []api.Feat { return feats("1 2 3 a b") }

// same reports whether two lists of notes say the same.
func (l notes) same(o notes) bool {
	for _, kind := range []string{"label", "width"} {
		a, isTold := l.first(kind)
		b, isToldToo := o.first(kind)
		if a != b || isTold != isToldToo {
			return false
		}
	}
	return !slices.ContainsFunc(allFeats(), func(f api.Feat) bool { return l.hasOrLacks(f) != o.hasOrLacks(f) })
}

// differs returns in what a partial record differs from its notes.
func (l notes) differs(p *record.Partial, m maker) string {
	var has []api.Feat
	for _, f := range allFeats() {
		if l.has(f) {
			has = append(has, f)
		}
		if is := p.Has(f); is != l.hasOrLacks(f) {
			return fmt.Sprintf("Has(%v): %d", f, is)
		}
	}
	if !slices.Equal(p.Features(), has) {
		return fmt.Sprintf("Features: %v", p.Features())
	}
	if p.Closed() != l.closed() {
		return fmt.Sprintf("Closed: %v", p.Closed())
	}
	for range 4 {
		if g := m.graph(); p.Fits(g) != l.fits(g) {
			return fmt.Sprintf("Fits(%v): %d", g, p.Fits(g))
		}
	}
	g, err := p.Known()
	label, _ := l.first("label")
	want, _ := record.Make(label.text, has)
	switch {
	case l.known() && (err != api.OK || !reflect.DeepEqual(g, want)):
		return fmt.Sprintf("Known: %v, %d", g, err)
	case !l.known() && (err != api.ErrNone || g.Nodes != nil):
		return fmt.Sprintf("Known: %v, %d", g, err)
	}
	return ""
}

// TestByNotes: what is known of partial records is what follows from all that was told, as the chapter says.
func TestByNotes(t *testing.T) {
	m := newMaker(92)
	for range 3000 {
		l := []notes{nil, nil, nil}
		p := []*record.Partial{record.New(), record.New(), record.New()}
		for range 12 {
			i, k := m.Intn(3), m.Intn(3)
			var with notes
			var err api.Errno
			switch n := m.note(); m.Intn(5) {
			case 0:
				with, err = append(slices.Clone(l[i]), l[k]...), p[i].Join(p[k])
			case 1:
				with, p[i] = l[k], p[k].Copy()
			default:
				with, err = append(slices.Clone(l[i]), n), n.tell(p[i])
			}
			want := api.OK
			if with.fails() {
				want = api.ErrFail
			} else {
				l[i] = with
			}
			if err != want {
				t.Fatalf("P9.2: %v: %d", with, err)
			}
			for i := range p {
				if how := l[i].differs(p[i], m); how != "" {
					t.Fatalf("P9.2: %v: %s", l[i], how)
				}
				if record.Same(p[i], p[k]) != l[i].same(l[k]) {
					t.Fatalf("P9.2: Same of %v and %v: %v", l[i], l[k], record.Same(p[i], p[k]))
				}
			}
		}
	}
}

// TestAnyOrder: the order in which things are told does not matter, nor whether they are told alone or joined.
func TestAnyOrder(t *testing.T) {
	m := newMaker(90)
	whole := 0
	for range 5000 {
		var l notes
		for range 1 + m.Intn(7) {
			l = append(l, m.note())
		}
		p, q := record.New(), record.New()
		isToldP, isToldQ := true, true
		for _, n := range l {
			isToldP = n.tell(p) == api.OK && isToldP
		}
		m.Shuffle(len(l), func(i, k int) { l[i], l[k] = l[k], l[i] })
		one := record.New()
		for _, n := range l {
			if m.Intn(2) == 0 {
				isToldQ = n.tell(q) == api.OK && isToldQ
			} else {
				isToldQ = n.tell(one) == api.OK && isToldQ
			}
		}
		isToldQ = q.Join(one) == api.OK && isToldQ
		if isToldP != isToldQ || isToldP && !record.Same(p, q) {
			t.Fatalf("P9.3: %v: %v, %v", l, isToldP, isToldQ)
		}
		if isToldP {
			whole++
		}
	}
	if whole < 1000 {
		t.Errorf("too few of them can be told: %d", whole)
	}
}

// anyGraph returns a graph of any form.
func (m maker) anyGraph() api.Graph {
	if m.Intn(3) > 0 {
		return m.graph()
	}
	g := m.graph()
	n := &g.Nodes[m.Intn(len(g.Nodes))]
	switch m.Intn(7) {
	case 0:
		g.Root = m.Intn(12) - 2
	case 1:
		n.Kind = pick(m, "", "rec", "int", "var", "ref", "what")
	case 2:
		n.N = m.Intn(5) - 2
	case 3:
		n.Text = pick(m, "", "\t", "cell")
	case 4:
		n.Feats = append(n.Feats, m.anyFeat())
	case 5:
		n.Kids = append(n.Kids, m.Intn(12)-2)
	default:
		g = api.Graph{}
	}
	return g
}

func (m maker) anyFeat() api.Feat {
	return pick(m, m.feat(), api.Feat{}, pick(m, noFeats...))
}

// calls makes the calls of all functions with arguments of any form, and returns what they answer.
func (m maker) calls(p, q *record.Partial) string {
	g, h, f := m.anyGraph(), m.anyGraph(), m.anyFeat()
	given := fmt.Sprint(g, h)
	l := []api.Feat{m.anyFeat(), f, m.anyFeat(), m.anyFeat()}[:m.Intn(5)]
	label := pick(m, "f", "", "\t", noLabels[3])
	var b []any
	two := func(a any, err api.Errno) { b = append(b, a, err) }
	label2, err := record.Label(g)
	two(label2, err)
	arity, err := record.Arity(g)
	two(arity, err)
	width, err := record.Width(g)
	two(width, err)
	parts, err := record.Parts(g)
	two(parts, err)
	for _, do := range []func() (api.Graph, api.Errno){
		func() (api.Graph, api.Errno) { return record.Dot(g, f) },
		func() (api.Graph, api.Errno) { return record.Adjoin(g, f, h) },
		func() (api.Graph, api.Errno) { return record.AdjoinAll(g, h) },
		func() (api.Graph, api.Errno) { return record.Subtract(g, f) },
		func() (api.Graph, api.Errno) { return record.Make(label, l) },
		func() (api.Graph, api.Errno) { return record.Tuple(label, []api.Graph{g, h, g}[:m.Intn(4)]) },
		p.Known,
	} {
		two(do())
	}
	kind := pick(m, "label", "has", "lacks", "width", "", "what")
	b = append(b, p.Tell(kind, label, f, m.Intn(6)-1), p.Join(q), p.Closed(), p.Has(f), p.Features(), p.Fits(g), record.Same(p, q))
	if fmt.Sprint(g, h) != given {
		b = append(b, "R4: an argument is another one now")
	}
	return fmt.Sprint(b...)
}

// TestAnyArguments: no call panics, and equal calls answer alike.
func TestAnyArguments(t *testing.T) {
	run := func() (l []string) {
		m := newMaker(91)
		p := []*record.Partial{nil, new(record.Partial), record.New(), record.New(), record.New(), record.New()}
		for range 3000 {
			l = append(l, m.calls(pick(m, p...), pick(m, p...)))
		}
		return l
	}
	one, two := run(), run()
	for i := range one {
		if one[i] != two[i] {
			t.Fatalf("R8: equal calls: %s and %s", one[i], two[i])
		}
		if strings.Contains(one[i], "R4:") {
			t.Fatal(one[i])
		}
	}
}
