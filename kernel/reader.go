package kernel

import (
	"slices"
	"strings"

	"manystrand/api"
	"manystrand/token"
)

// A reader stands ahead of one of the tokens of some lines.
type reader struct {
	left []api.Token
}

// The texts of the signs behind each line, and behind all of them: no token of a source is such a sign.
const (
	lineEnd = "\n"
	theEnd  = ""
)

// A givenUp is the panic of a reader that cannot go on.
type givenUp struct{}

// read returns the statement of some lines. It takes more than what Print makes: who calls it
// compares the lines with those of the statement.
func read(text string) (s api.Stmt, ok bool) {
	defer func() {
		if _, gaveUp := recover().(givenUp); gaveUp {
			s, ok = api.Stmt{}, false
		}
	}()
	r := reader{left: tokensOf(text)}
	s = r.body(1)
	r.take(theEnd)
	return s, true
}

// tokensOf returns the tokens of some lines, with a sign behind each line and one behind all. Each
// line of a valid statement, but not all of them together, is as short as a source may be.
func tokensOf(text string) []api.Token {
	var all []api.Token
	for _, line := range strings.Split(text, "\n") {
		l, err := token.Tokens(line)
		if err != api.OK {
			panic(givenUp{})
		}
		all = append(all, l...)
		all = append(all, api.Token{Kind: "sign", Text: lineEnd})
	}
	return append(all, api.Token{Kind: "sign", Text: theEnd})
}

// sees reports whether the reader stands ahead of one of some keys or signs.
func (r *reader) sees(texts ...string) bool {
	t := r.left[0]
	return (t.Kind == "key" || t.Kind == "sign") && slices.Contains(texts, t.Text)
}

func (r *reader) pass() string {
	text := r.left[0].Text
	r.left = r.left[1:]
	return text
}

// takeIf passes a key or a sign that may stand here, and reports whether it did.
func (r *reader) takeIf(text string) bool {
	found := r.sees(text)
	if found {
		r.pass()
	}
	return found
}

// take passes a key or a sign that must stand here.
func (r *reader) take(text string) {
	if !r.takeIf(text) {
		panic(givenUp{})
	}
}

// takeOf passes a token of a kind that must stand here.
func (r *reader) takeOf(kind string) string {
	if r.left[0].Kind != kind {
		panic(givenUp{})
	}
	return r.pass()
}

func (r *reader) number() int { return numberOf(r.takeOf("int")) }

func (r *reader) seesVariable() bool { return r.left[0].Kind == "var" || r.sees(newSign) }

// variable reads a variable; a new one is a sign and an int.
func (r *reader) variable() string {
	if r.takeIf(newSign) {
		return newSign + r.takeOf("int")
	}
	return r.takeOf("var")
}

// variables reads variables, and a key or a sign behind them.
func (r *reader) variables(closing string) []string {
	var l []string
	for !r.takeIf(closing) {
		l = append(l, r.variable())
	}
	return l
}

// body reads statements up to what may stand behind a body.
func (r *reader) body(depth int) api.Stmt {
	l := []api.Stmt{r.statement(depth)}
	for !r.sees("else", "catch", "[]", "end", theEnd) {
		l = append(l, r.statement(depth))
	}
	return sequence(l...)
}

// statement reads a statement and the end of its line. It gives up where no valid one can stand:
// lines may be nested deeper than one can go down.
func (r *reader) statement(depth int) api.Stmt {
	if depth > api.MaxNest {
		panic(givenUp{})
	}
	if r.seesVariable() {
		return r.value(depth)
	}
	s := api.Stmt{Do: r.pass()}
	switch s.Do {
	case "skip":
		return r.line(s)
	case "{":
		return r.line(api.Stmt{Do: "call", Args: r.variables("}")})
	case "op":
		s.Name = r.pass()
		s.Args = r.variables(lineEnd)
		return s
	case "raise":
		s.Args = []string{r.variable()}
		return r.line(s)
	case "local":
		s.Args = r.variables("in")
	case "if":
		s.Args = r.variables("then")
	case "number":
		s.Args = []string{r.variable()}
		s.N = r.number()
		r.take("then")
	case "case":
		s.Args = r.variables("of")
		s = r.record(s)
		r.take("then")
	case "thread", "try", "choice":
	default:
		panic(givenUp{})
	}
	return r.block(s, depth)
}

// value reads a statement that gives a variable a value.
func (r *reader) value(depth int) api.Stmt {
	args := []string{r.variable()}
	r.take("=")
	switch {
	case r.seesVariable():
		return r.line(api.Stmt{Do: "eq", Args: append(args, r.variable())})
	case r.left[0].Kind == "int":
		return r.line(api.Stmt{Do: "int", Args: args, N: r.number()})
	case r.takeIf("proc"):
		r.take("{")
		return r.block(api.Stmt{Do: "proc", Args: append(args, r.variables("}")...)}, depth)
	}
	return r.line(r.record(api.Stmt{Do: "rec", Args: args}))
}

func (r *reader) line(s api.Stmt) api.Stmt {
	r.take(lineEnd)
	return s
}

// block reads the Kids of a statement, from the end of the line that opens the first one on.
func (r *reader) block(s api.Stmt, depth int) api.Stmt {
	for {
		r.take(lineEnd)
		s.Kids = append(s.Kids, r.body(depth+1))
		switch {
		case r.takeIf("end"):
			return r.line(s)
		case r.takeIf("catch"):
			s.Args = append(s.Args, r.variable())
			r.take("then")
		case !r.takeIf("else"):
			r.take("[]")
		}
	}
}

// record reads the record that a statement makes or asks for.
func (r *reader) record(s api.Stmt) api.Stmt {
	if r.sees("(") {
		s.N = anyLabel
	} else {
		s.Name = r.takeOf("atom")
	}
	if !r.takeIf("(") {
		return s
	}
	for !r.takeIf(")") {
		if r.takeIf("...") {
			s.N = max(s.N, fieldsAtLeast)
			continue
		}
		s.Feats = append(s.Feats, r.feature())
		r.take(":")
		s.Args = append(s.Args, r.variable())
	}
	return s
}

func (r *reader) feature() api.Feat {
	if r.left[0].Kind == "int" {
		return api.Feat{N: r.number()}
	}
	return api.Feat{Text: r.takeOf("atom")}
}
