package kernel

import (
	"strconv"
	"strings"

	"manystrand/api"
)

// A matcher makes the statement that matches a variable with a pattern: it does yes, if it matches,
// else no.
type matcher func(x string, yes, no api.Stmt) api.Stmt

// arms translates the arms of a case, and the phrase behind them, if there is one.
func (r *translator) arms(subject string, l []api.Tree, x string) api.Stmt {
	switch {
	case len(l) == 0:
		return operation("nomatch", subject)
	case l[0].Do != "arm":
		return r.branch(l[0], x)
	}
	pattern, phrase := l[0].Kids[:1], l[0].Kids[1]
	matched := r.pattern(pattern[0])
	yes := r.within(pattern, phrase, x)
	return matched(subject, yes, r.arms(subject, l[1:], x))
}

// pattern takes the new variables of a pattern.
func (r *translator) pattern(p api.Tree) matcher {
	switch p.Do {
	case "any":
		return func(x string, yes, no api.Stmt) api.Stmt { return yes }
	case "var":
		return func(x string, yes, no api.Stmt) api.Stmt {
			return local([]string{p.Text}, sequence(unify(p.Text, x), yes))
		}
	case "int":
		return func(x string, yes, no api.Stmt) api.Stmt { return matchNumber(x, numberOf(p.Text), yes, no) }
	case "atom":
		return func(x string, yes, no api.Stmt) api.Stmt { return match(x, p.Text, nil, nil, yes, no) }
	}
	return r.recordPattern(p)
}

func (r *translator) recordPattern(p api.Tree) matcher {
	label, feats, fields := fieldsOf(p)
	vars := r.several(len(fields))
	var parts []matcher
	for _, field := range fields {
		parts = append(parts, r.pattern(field))
	}
	return func(x string, yes, no api.Stmt) api.Stmt {
		for i := len(parts) - 1; i >= 0; i-- {
			yes = parts[i](vars[i], yes, no)
		}
		s := match(x, label, feats, vars, yes, no)
		if p.Do == "open" {
			s.N = fieldsAtLeast
		}
		return s
	}
}

// fieldsOf returns a record as it is written, or the one as which a list, a cons or a tuple stands.
func fieldsOf(t api.Tree) (label string, feats []api.Feat, parts []api.Tree) {
	switch t.Do {
	case "list":
		return pairLabel, numbered(2), []api.Tree{t.Kids[0], listOf(t.Kids[1:])}
	case "cons":
		return pairLabel, numbered(2), t.Kids
	case "tuple":
		return "#", numbered(len(t.Kids)), t.Kids
	}
	for _, field := range t.Kids {
		feats = append(feats, api.Feat{N: field.N, Text: field.Text})
		parts = append(parts, field.Kids[0])
	}
	return t.Text, feats, parts
}

func listOf(l []api.Tree) api.Tree {
	if len(l) == 0 {
		return api.Tree{Do: "atom", Text: "nil"}
	}
	return api.Tree{Do: "list", Kids: l}
}

func bytesOf(text string) []api.Tree {
	var l []api.Tree
	for i := range len(text) {
		l = append(l, api.Tree{Do: "int", Text: strconv.Itoa(int(text[i]))})
	}
	return l
}

// numberOf returns the number of an int's text.
func numberOf(text string) int {
	n, _ := strconv.Atoi(strings.Replace(text, "~", "-", 1))
	return n
}
