package tree

import (
	"slices"
	"strconv"

	"manystrand/api"
)

// list reads a list behind its bracket, or a comp, which begins likewise.
func (p *parser) list() api.Tree {
	kids := []api.Tree{p.phrase()}
	if p.sees("for") && !isOneOf(p.left[1], "each") {
		p.pass()
		generator := p.generator()
		if !p.sees("at") {
			return p.comp(append(kids, generator...))
		}
		// It was no comp but a list, whose second phrase begins with a loop.
		kids = append(kids, p.from(p.dots(p.numbers(generator))))
	}
	for !p.takeIf("]") {
		kids = append(kids, p.phrase())
	}
	return api.Tree{Do: "list", Kids: kids}
}

// comp reads the rest of a comp behind its generator.
func (p *parser) comp(kids []api.Tree) api.Tree {
	if p.takeIf("if") {
		kids = append(kids, p.phrase())
	}
	p.take("]")
	return api.Tree{Do: "comp", Kids: kids}
}

// pattern reads a pattern: what phrases have, but of fewer kinds.
func (p *parser) pattern() api.Tree {
	var whole part
	seen := map[string]bool{}
	operand := func() api.Tree { return p.patternUnit(whole, seen) }
	whole = func() api.Tree { return p.climb(operand, operand(), rankCons, rankTuple) }
	return whole()
}

func (p *parser) patternUnit(whole part, seen map[string]bool) api.Tree {
	switch {
	case p.left[0].Kind == "var":
		return p.variable(seen)
	case p.left[0].Kind == "atom":
		return p.atom(whole)
	case p.takeIf("("):
		t := whole()
		p.take(")")
		return t
	case p.takeIf("["):
		kids := p.several(whole, "]")
		p.pass()
		return api.Tree{Do: "list", Kids: kids}
	}
	return p.simple()
}

// atom reads an atom, or the record whose label it is, with such values.
func (p *parser) atom(value part) api.Tree {
	isLabel := p.isLabel()
	t := api.Tree{Do: "atom", Text: p.pass().Text}
	if !isLabel {
		return t
	}
	p.take("(")
	fields := p.fields(value)
	open := p.takeIf("...")
	p.take(")")
	switch {
	case open:
		t.Do = "open"
	case len(fields) > 0:
		t.Do = "rec"
	}
	t.Kids = fields
	return t
}

// fields reads the fields of a record, and brings them in order.
func (p *parser) fields(value part) []api.Tree {
	var l []api.Tree
	feature := p.features()
	for !p.sees("...", ")") {
		f := feature()
		l = append(l, api.Tree{Do: "field", N: f.N, Text: f.Text, Kids: []api.Tree{value()}})
	}
	slices.SortFunc(l, func(a, b api.Tree) int {
		if Less(featOf(a), featOf(b)) {
			return -1
		}
		return 1
	})
	return l
}

// features returns what reads the features of one record's fields, one after the other: the one
// that is written, or the number whose turn it is.
func (p *parser) features() func() api.Feat {
	turn := 0
	taken := map[api.Feat]bool{}
	return func() api.Feat {
		f, written := p.writtenFeature()
		if !written {
			turn++
			f = api.Feat{N: turn}
		}
		if taken[f] || !IsFeat(f) {
			p.giveUp()
		}
		taken[f] = true
		if written {
			p.pass()
			p.take(":")
		}
		return f
	}
}

// writtenFeature returns the feature of the parser's token, if it is one. A number that is none is
// the value of a field without one, so that its colon is what is wrong.
func (p *parser) writtenFeature() (f api.Feat, ok bool) {
	t := p.left[0]
	switch {
	case t.Kind == "atom":
		f = api.Feat{Text: t.Text}
	case t.Kind == "int":
		f.N, _ = strconv.Atoi(t.Text)
		if f.N < 1 || !IsFeat(f) {
			return api.Feat{}, false
		}
	default:
		return api.Feat{}, false
	}
	return f, isOneOf(p.left[1], ":")
}
