package tree

import (
	"strconv"

	"manystrand/api"
)

// phrase reads one phrase, as long as operators go on with it.
func (p *parser) phrase() api.Tree { return p.from(p.operand()) }

// from reads what goes on with an operand.
func (p *parser) from(operand api.Tree) api.Tree {
	return p.climb(p.operand, operand, rankSet, rankProduct)
}

func (p *parser) operand() api.Tree {
	do := prefixOf(p.left[0])
	if do == "" {
		return p.dots(p.unit())
	}
	p.pass()
	return api.Tree{Do: do, Kids: []api.Tree{p.operand()}}
}

// dots reads the dots that follow a unit: they bind most, and to the left.
func (p *parser) dots(t api.Tree) api.Tree {
	for p.takeIf(".") {
		t = api.Tree{Do: "dot", Kids: []api.Tree{t, p.unit()}}
	}
	return t
}

// unit reads a phrase that ends where it says so itself.
func (p *parser) unit() api.Tree {
	t := p.left[0]
	switch t.Kind {
	case "atom":
		return p.atom(p.phrase)
	case "text":
		p.pass()
		return api.Tree{Do: "str", Text: t.Text}
	case "key":
		if read := p.keyed(t.Text); read != nil {
			p.pass()
			return read()
		}
	}
	switch {
	case p.takeIf("("):
		return p.bodyTo(")")
	case p.takeIf("["):
		return p.list()
	case p.takeIf("{"):
		kids := p.several(p.phrase, "}")
		p.pass()
		return api.Tree{Do: "call", Kids: kids}
	}
	return p.simple()
}

// simple reads a phrase of one token that may stand in a pattern, too.
func (p *parser) simple() api.Tree {
	t := p.left[0]
	switch t.Kind {
	case "var", "int":
		p.pass()
		return api.Tree{Do: t.Kind, Text: t.Text}
	case "char":
		p.pass()
		return api.Tree{Do: "int", Text: strconv.Itoa(int(t.Text[0]))}
	}
	p.take("_")
	return api.Tree{Do: "any"}
}
