package tree

import (
	"strings"

	"manystrand/api"
	"manystrand/token"
)

// A parser stands ahead of one of a source's tokens.
type parser struct {
	text string
	left []api.Token // what is not read yet, and behind it the end
}

// A part reads what begins at the parser's token, or gives up.
type part func() api.Tree

// A badPlace is the panic of a parser that gives up.
type badPlace int

// theEnd is the text of the sign that stands behind all tokens: no token has an empty one.
const theEnd = ""

// read returns the tree of a source, or its bad place: both Parse and Bad have one reading.
func read(text string) (t api.Tree, bad int, err api.Errno) {
	l, err := token.Tokens(text)
	if err != api.OK {
		bad, err = token.Bad(text)
		return api.Tree{}, bad, err
	}
	t, bad, ok := parse(text, l)
	switch {
	case !ok:
		return api.Tree{}, bad, api.ErrForm
	case !isWithinLimits(t):
		return api.Tree{}, -1, api.ErrLimit
	}
	return t, 0, api.OK
}

// parse recovers where the parser gave up; ok is false then.
func parse(text string, l []api.Token) (t api.Tree, bad int, ok bool) {
	p := parser{text: text, left: append(l, api.Token{Kind: "sign", Text: theEnd, At: len(text)})}
	defer func() {
		if at, gaveUp := recover().(badPlace); gaveUp {
			bad = int(at)
		}
	}()
	t = p.body(theEnd)
	return t, 0, true
}

func (p *parser) giveUp() { panic(badPlace(p.left[0].At)) }

// sees reports whether the parser stands ahead of one of some keys or signs.
func (p *parser) sees(texts ...string) bool { return isOneOf(p.left[0], texts...) }

// isOneOf reports whether a token is one of some keys or signs: no key has the text of a sign.
func isOneOf(t api.Token, texts ...string) bool {
	if t.Kind != "key" && t.Kind != "sign" {
		return false
	}
	for _, text := range texts {
		if t.Text == text {
			return true
		}
	}
	return false
}

// pass goes behind the parser's token, and returns it.
func (p *parser) pass() api.Token {
	t := p.left[0]
	p.left = p.left[1:]
	return t
}

// take passes a key or a sign that must stand here.
func (p *parser) take(text string) {
	if !p.sees(text) {
		p.giveUp()
	}
	p.pass()
}

// takeIf passes a key or a sign that may stand here, and reports whether it did.
func (p *parser) takeIf(text string) bool {
	found := p.sees(text)
	if found {
		p.pass()
	}
	return found
}

// isLabel reports whether the parser's atom is the label of a record: whether the bracket behind it
// stands directly behind it. What stands between two tokens ends with a blank or as a remark ends,
// and an atom with neither.
func (p *parser) isLabel() bool {
	bracket := p.left[1]
	return isOneOf(bracket, "(") && !strings.Contains(" \t\n\r/", p.text[bracket.At-1:bracket.At])
}

// variable reads a variable that is none of those seen so far.
func (p *parser) variable(seen map[string]bool) api.Tree {
	t := p.left[0]
	if t.Kind != "var" || seen[t.Text] {
		p.giveUp()
	}
	seen[t.Text] = true
	p.pass()
	return api.Tree{Do: "var", Text: t.Text}
}

// oneVariable reads a variable that may be any one.
func (p *parser) oneVariable() api.Tree { return p.variable(map[string]bool{}) }

// several reads one part or more, up to one of some keys or signs.
func (p *parser) several(one part, closing ...string) []api.Tree {
	l := []api.Tree{one()}
	for !p.sees(closing...) {
		l = append(l, one())
	}
	return l
}

// body reads phrases up to one of some keys or signs: a seq, if they are several.
func (p *parser) body(closing ...string) api.Tree {
	l := p.several(p.phrase, closing...)
	if len(l) == 1 {
		return l[0]
	}
	return api.Tree{Do: "seq", Kids: l}
}

// bodyTo reads a body and the key or the sign behind it.
func (p *parser) bodyTo(closing string) api.Tree {
	t := p.body(closing)
	p.take(closing)
	return t
}

// phraseTo reads one phrase and the key or the sign behind it.
func (p *parser) phraseTo(closing string) api.Tree {
	t := p.phrase()
	p.take(closing)
	return t
}
