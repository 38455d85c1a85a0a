package tree

import (
	"strconv"
	"strings"

	"manystrand/api"
	"manystrand/token"
)

// A writer writes valid phrases, in one line or in several.
type writer struct {
	strings.Builder
	gap   func(depth int) string // what parts the phrases of a body
	depth int                    // of the line that is being written
}

func blank(int) string { return " " }

func newLine(depth int) string { return "\n" + strings.Repeat("  ", depth) }

func (w *writer) put(texts ...string) {
	for _, text := range texts {
		w.WriteString(text)
	}
}

// phrase writes what stands in brackets or is one token; the others are written by keyed.
func (w *writer) phrase(t api.Tree) {
	switch t.Do {
	case "var", "atom", "int", "str":
		w.token(tokenOf(t))
	case "any":
		w.put("_")
	case "rec", "open":
		w.record(t)
	case "list":
		w.between("[", t.Kids, " ", "]")
	case "call":
		w.between("{", t.Kids, " ", "}")
	case "seq":
		w.between("(", t.Kids, " ", ")")
	case "cons", "tuple", "dot", "set", "eq", "op":
		w.between("(", t.Kids, " "+signOf(t)+" ", ")")
	case "neg", "get", "view":
		w.between("("+signOf(t)+" ", t.Kids, "", ")")
	case "comp":
		w.comp(t.Kids)
	default:
		w.keyed(t)
	}
}

func (w *writer) token(t api.Token) {
	text, _ := token.Text(t)
	w.put(text)
}

// phrases writes phrases with something between each two.
func (w *writer) phrases(l []api.Tree, between string) {
	for i, t := range l {
		if i > 0 {
			w.put(between)
		}
		w.phrase(t)
	}
}

func (w *writer) between(opening string, l []api.Tree, between, closing string) {
	w.put(opening)
	w.phrases(l, between)
	w.put(closing)
}

func signOf(t api.Tree) string {
	switch t.Do {
	case "cons":
		return "|"
	case "tuple":
		return "#"
	case "dot":
		return "."
	case "set":
		return ":="
	case "eq":
		return "="
	case "neg":
		return "~"
	case "get":
		return "@"
	case "view":
		return "!!"
	}
	return t.Text
}

func (w *writer) record(t api.Tree) {
	w.token(api.Token{Kind: "atom", Text: t.Text})
	w.put("(")
	for i, field := range t.Kids {
		if i > 0 {
			w.put(" ")
		}
		if field.N > 0 {
			w.put(strconv.Itoa(field.N))
		} else {
			w.token(api.Token{Kind: "atom", Text: field.Text})
		}
		w.put(":")
		w.phrase(field.Kids[0])
	}
	switch {
	case t.Do == "rec":
	case len(t.Kids) == 0:
		w.put("...")
	default:
		w.put(" ...")
	}
	w.put(")")
}

func (w *writer) comp(kids []api.Tree) {
	w.put("[")
	w.phrase(kids[0])
	w.put(" for ")
	w.phrases(kids[1:3], " in ")
	if len(kids) > 3 {
		w.put(" if ")
		w.phrase(kids[3])
	}
	w.put("]")
}

func (w *writer) keyed(t api.Tree) {
	last := len(t.Kids) - 1
	switch t.Do {
	case "skip":
		w.put("skip")
	case "local":
		w.between("local ", t.Kids[:last], " ", " in")
		w.body(t.Kids[last], "end")
	case "proc", "fun", "lazy":
		w.procedure(t)
	case "if":
		w.between("if ", t.Kids[:1], "", " then")
		w.otherwise(t.Kids[1:])
	case "case":
		w.distinction(t.Kids)
	case "thread":
		w.put("thread")
		w.body(t.Kids[0], "end")
	case "raise":
		w.between("raise ", t.Kids, "", " end")
	case "try":
		w.put("try")
		w.body(t.Kids[0], "catch")
		w.between(" ", t.Kids[1:2], "", " then")
		w.body(t.Kids[2], "end")
	case "for":
		w.between("for ", t.Kids[:2], " in ", " at ")
		w.between("", t.Kids[2:3], "", " do")
		w.body(t.Kids[3], "end")
	case "each":
		w.between("for each ", t.Kids[:2], " in ", " do")
		w.body(t.Kids[2], "end")
	case "lock":
		w.between("lock ", t.Kids[:1], "", " then")
		w.body(t.Kids[1], "end")
	case "choice":
		w.put("choice")
		w.branches(t.Kids)
	}
}

func (w *writer) procedure(t api.Tree) {
	last := len(t.Kids) - 1
	if t.Do == "lazy" {
		w.put("fun ")
	}
	w.put(t.Do, " {")
	if t.Kids[0].Do == "any" {
		w.put("$")
	} else {
		w.phrase(t.Kids[0])
	}
	for _, parameter := range t.Kids[1:last] {
		w.put(" ")
		w.phrase(parameter)
	}
	w.put("}")
	w.body(t.Kids[last], "end")
}

// otherwise writes a body that ends a phrase, or two with an else between them.
func (w *writer) otherwise(bodies []api.Tree) {
	if len(bodies) > 1 {
		w.body(bodies[0], "else")
	}
	w.body(bodies[len(bodies)-1], "end")
}

func (w *writer) distinction(kids []api.Tree) {
	w.between("case ", kids[:1], "", " of")
	rest := kids[1:]
	for len(rest) > 1 && rest[1].Do == "arm" {
		w.between(" ", rest[0].Kids[:1], "", " then")
		w.body(rest[0].Kids[1], "[]")
		rest = rest[1:]
	}
	w.between(" ", rest[0].Kids[:1], "", " then")
	w.otherwise(append([]api.Tree{rest[0].Kids[1]}, rest[1:]...))
}

func (w *writer) branches(bodies []api.Tree) {
	last := len(bodies) - 1
	for _, body := range bodies[:last] {
		w.body(body, "[]")
	}
	w.body(bodies[last], "end")
}

// body writes a body behind what opens it, and what closes it.
func (w *writer) body(t api.Tree, closing string) {
	if t.Do != "seq" {
		w.put(" ")
		w.phrase(t)
		w.put(" ", closing)
		return
	}
	w.depth++
	for _, kid := range t.Kids {
		w.put(w.gap(w.depth))
		w.phrase(kid)
	}
	w.depth--
	w.put(w.gap(w.depth), closing)
}
