package graph

import (
	"slices"
	"strconv"
	"strings"

	"manystrand/api"
	"manystrand/equal"
	"manystrand/token"
	"manystrand/tree"
)

// A parser stands ahead of one of a text's tokens.
type parser struct {
	text  string
	left  []api.Token    // what is not read yet, and behind it the end
	nodes []api.Node     // one without a Kind is not read yet
	marks map[string]int // the nodes of marks
}

// theEnd is the text of the sign that stands behind all tokens: no token has an empty one.
const theEnd = ""

// A givenUp is the panic of a parser that cannot go on.
type givenUp struct{}

// Parse returns the least graph of a text.
func Parse(text string) (api.Graph, api.Errno) {
	l, err := token.Tokens(text)
	if err != api.OK {
		return api.Graph{}, err
	}
	g, ok := parse(text, l)
	if !ok {
		return api.Graph{}, api.ErrForm
	}
	g = equal.Least(g)
	if len(g.Nodes) > api.MaxGraph {
		return api.Graph{}, api.ErrLimit
	}
	return g, api.OK
}

// parse recovers where the parser gave up; ok is false then.
func parse(text string, l []api.Token) (g api.Graph, ok bool) {
	p := parser{text: text, left: append(l, api.Token{Kind: "sign", Text: theEnd}), marks: map[string]int{}}
	defer func() {
		if _, gaveUp := recover().(givenUp); gaveUp {
			g, ok = api.Graph{}, false
		}
	}()
	root := p.value()
	p.take(theEnd)
	for _, n := range p.marks {
		if p.nodes[n].Kind == "" {
			p.giveUp()
		}
	}
	return api.Graph{Root: root, Nodes: p.nodes}, true
}

func (p *parser) giveUp() { panic(givenUp{}) }

func (p *parser) pass() string {
	text := p.left[0].Text
	p.left = p.left[1:]
	return text
}

// takeIf passes a sign that may stand here, and reports whether it did.
func (p *parser) takeIf(sign string) bool {
	found := p.left[0].Kind == "sign" && p.left[0].Text == sign
	if found {
		p.pass()
	}
	return found
}

// take passes a sign that must stand here.
func (p *parser) take(sign string) {
	if !p.takeIf(sign) {
		p.giveUp()
	}
}

// integer reads an int.
func (p *parser) integer() int {
	if p.left[0].Kind != "int" {
		p.giveUp()
	}
	n, _ := strconv.Atoi(strings.Replace(p.pass(), "~", "-", 1)) // of no more digits than fit
	return n
}

// number reads the number of a variable or a thing.
func (p *parser) number() int {
	n := p.integer()
	if !isNumber(n) {
		p.giveUp()
	}
	return n
}

func (p *parser) add(n api.Node) int {
	p.nodes = append(p.nodes, n)
	return len(p.nodes) - 1
}

// value reads what a node is written as, and returns the node.
func (p *parser) value() int {
	t := p.left[0]
	switch {
	case t.Kind == "int":
		return p.add(api.Node{Kind: "int", N: p.integer()})
	case t.Kind == "var":
		return p.marked()
	case t.Kind == "atom" && !p.isLabel():
		return p.add(atom(p.pass()))
	case p.takeIf("_"):
		return p.add(api.Node{Kind: "var", N: p.number()})
	case p.takeIf("<"):
		return p.thing()
	}
	at := p.add(api.Node{})
	p.record(at)
	return at
}

// thing reads a thing behind its bracket.
func (p *parser) thing() int {
	// Some sorts are keys.
	if kind := p.left[0].Kind; kind != "atom" && kind != "key" || !isSort(p.left[0].Text) {
		p.giveUp()
	}
	n := api.Node{Kind: "ref", Text: p.pass(), N: p.number()}
	p.take(">")
	return p.add(n)
}

// marked reads a mark, and behind its `=` the record that has it.
func (p *parser) marked() int {
	if !isMark(p.left[0].Text) {
		p.giveUp()
	}
	mark := p.pass()
	at, known := p.marks[mark]
	if !known {
		at = p.add(api.Node{})
		p.marks[mark] = at
	}
	if p.takeIf("=") {
		if p.nodes[at].Kind != "" {
			p.giveUp()
		}
		p.record(at)
	}
	return at
}

func isMark(text string) bool {
	n, err := strconv.Atoi(text[1:])
	return err == nil && 1 <= n && n <= 9999 && text == "C"+strconv.Itoa(n)
}

// record reads a record with features, which becomes a node that was added.
func (p *parser) record(at int) {
	p.nodes[at].Kind = "rec"
	switch {
	case p.left[0].Kind == "atom" && p.isLabel():
		label := p.pass()
		p.take("(")
		p.fields(at, label)
	case p.takeIf("("):
		p.pairOrTuple(at)
	case p.takeIf("["):
		p.list(at)
	default:
		p.giveUp()
	}
}

// isLabel reports whether the parser's atom is the label of a record: whether the bracket behind it
// stands directly behind it. What stands between two tokens ends with a blank or as a remark ends,
// and an atom with neither.
func (p *parser) isLabel() bool {
	bracket := p.left[1]
	return bracket.Kind == "sign" && bracket.Text == "(" && !strings.Contains(" \t\n\r/", p.text[bracket.At-1:bracket.At])
}

// fields reads the fields of a record, up to its bracket, and brings them in order.
func (p *parser) fields(at int, label string) {
	parts := map[api.Feat]int{}
	for first := true; first || !p.takeIf(")"); first = false {
		f := p.feature()
		if _, twice := parts[f]; twice {
			p.giveUp()
		}
		p.take(":")
		parts[f] = p.value()
	}
	n := api.Node{Kind: "rec", Text: label}
	for f := range parts {
		n.Feats = append(n.Feats, f)
	}
	slices.SortFunc(n.Feats, compareFeats)
	for _, f := range n.Feats {
		n.Kids = append(n.Kids, parts[f])
	}
	p.nodes[at] = n
}

func (p *parser) feature() api.Feat {
	if p.left[0].Kind == "atom" {
		return api.Feat{Text: p.pass()}
	}
	return p.counted(p.integer())
}

// counted returns the feature that a number is.
func (p *parser) counted(n int) api.Feat {
	f := api.Feat{N: n}
	if n == 0 || !tree.IsFeat(f) {
		p.giveUp()
	}
	return f
}

// pairOrTuple reads a pair or a tuple behind its bracket.
func (p *parser) pairOrTuple(at int) {
	first := p.value()
	if p.takeIf(pairLabel) {
		p.nodes[at] = pair(first, p.value())
		p.take(")")
		return
	}
	n := api.Node{Kind: "rec", Text: tupleLabel, Feats: []api.Feat{{N: 1}}, Kids: []int{first}}
	for len(n.Kids) < 2 || !p.takeIf(")") {
		p.take(tupleLabel)
		n.Feats = append(n.Feats, p.counted(len(n.Feats)+1))
		n.Kids = append(n.Kids, p.value())
	}
	p.nodes[at] = n
}

// list reads a list behind its bracket; its first pair becomes a node that was added.
func (p *parser) list(at int) {
	for {
		first := p.value()
		rest := p.add(atom(nilLabel))
		p.nodes[at] = pair(first, rest)
		if p.takeIf("]") {
			return
		}
		at = rest
	}
}
