package tree

import (
	"manystrand/api"
)

// Ranks of operators: the greater one binds more.
const (
	rankSet = 1 + iota
	rankOrelse
	rankAndthen
	rankCompare
	rankCons
	rankTuple
	rankSum
	rankProduct
)

// What an operator does with a further one of its rank behind it.
const (
	leftward  = iota // takes it outside
	rightward        // takes it inside
	alone            // takes none
	chained          // has all the operands of both
)

// An operator stands between its operands; text is what the phrase has as its Text.
type operator struct {
	rank, way int
	do, text  string
}

// operatorOf returns the operator that a token is: one of no rank, if it is none.
func operatorOf(t api.Token) operator {
	if t.Kind != "key" && t.Kind != "sign" {
		return operator{}
	}
	switch t.Text {
	case "=":
		return operator{rank: rankSet, way: rightward, do: "eq"}
	case ":=":
		return operator{rank: rankSet, way: rightward, do: "set"}
	case "orelse":
		return operator{rank: rankOrelse, way: rightward, do: "op", text: t.Text}
	case "andthen":
		return operator{rank: rankAndthen, way: rightward, do: "op", text: t.Text}
	case "==", "\\=", "<", "=<", ">", ">=":
		return operator{rank: rankCompare, way: alone, do: "op", text: t.Text}
	case "|":
		return operator{rank: rankCons, way: rightward, do: "cons"}
	case "#":
		return operator{rank: rankTuple, way: chained, do: "tuple"}
	case "+", "-":
		return operator{rank: rankSum, way: leftward, do: "op", text: t.Text}
	case "*", "div", "mod":
		return operator{rank: rankProduct, way: leftward, do: "op", text: t.Text}
	}
	return operator{}
}

// prefixOf returns what a phrase does that begins with an operator: nothing, if it does not.
func prefixOf(t api.Token) string {
	switch {
	case isOneOf(t, "~"):
		return "neg"
	case isOneOf(t, "@"):
		return "get"
	case isOneOf(t, "!!"):
		return "view"
	}
	return ""
}

// climb reads the operators of the ranks from least to most that follow a first operand, and their
// further operands.
func (p *parser) climb(operand part, first api.Tree, least, most int) api.Tree {
	greatest := most
	for {
		o := operatorOf(p.left[0])
		if o.rank < least || o.rank > most {
			return first
		}
		kids := append([]api.Tree{first}, p.operands(operand, o, greatest)...)
		first = api.Tree{Do: o.do, Text: o.text, Kids: kids}
		most = o.rank
		if o.way != leftward {
			most--
		}
	}
}

// operands reads what stands behind an operand: the operator, and its further operands, in which
// stand operators up to the greatest rank.
func (p *parser) operands(operand part, o operator, greatest int) []api.Tree {
	least := o.rank + 1
	if o.way == rightward {
		least--
	}
	var l []api.Tree
	for text := p.left[0].Text; len(l) == 0 || o.way == chained && p.sees(text); {
		p.pass()
		l = append(l, p.climb(operand, operand(), least, greatest))
	}
	return l
}
