package kernel

import (
	"strconv"

	"manystrand/api"
)

// A translator goes through a valid phrase from the left. Statements that it makes may share memory.
type translator struct {
	taken int            // new variables so far
	bound map[string]int // how many of the phrases around bind a variable
}

// nowhere is what a phrase has in the place of the variable for its value where it is a statement.
const nowhere = ""

// fresh takes a new variable.
func (r *translator) fresh() string {
	r.taken++
	return newSign + strconv.Itoa(r.taken)
}

// several takes new variables.
func (r *translator) several(n int) []string {
	var l []string
	for range n {
		l = append(l, r.fresh())
	}
	return l
}

// named makes a statement of the names of phrases: variables are their own names, for all others
// there are new variables, which get their values ahead of the statement.
func (r *translator) named(l []api.Tree, use func(names []string) api.Stmt) api.Stmt {
	var names, made []string
	for _, t := range l {
		name := t.Text
		if t.Do != "var" {
			name = r.fresh()
			made = append(made, name)
		}
		names = append(names, name)
	}
	var all []api.Stmt
	for i, t := range l {
		if t.Do != "var" {
			all = append(all, r.val(t, names[i]))
		}
	}
	return local(made, sequence(append(all, use(names))...))
}

// within translates a phrase in which patterns bind their variables.
func (r *translator) within(patterns []api.Tree, t api.Tree, x string) api.Stmt {
	r.bind(patterns, 1)
	s := r.branch(t, x)
	r.bind(patterns, -1)
	return s
}

func (r *translator) bind(patterns []api.Tree, more int) {
	for _, t := range patterns {
		if t.Do == "var" {
			r.bound[t.Text] += more
		}
		r.bind(t.Kids, more)
	}
}

// branch translates a phrase for its value, or as a statement.
func (r *translator) branch(t api.Tree, x string) api.Stmt {
	if x == nowhere {
		return r.stat(t)
	}
	return r.val(t, x)
}

// stat translates a phrase as a statement.
func (r *translator) stat(t api.Tree) api.Stmt {
	switch t.Do {
	case "skip":
		return skip()
	case "eq":
		return r.equation(t.Kids[0], t.Kids[1])
	case "call":
		return r.call(t.Kids, nil)
	case "set":
		return r.operation("set", t.Kids, nil)
	case "raise":
		return r.raise(t)
	case "for":
		return r.loop(t.Kids)
	case "each":
		return r.traversal(t.Kids)
	case "seq", "local", "thread", "if", "case", "try", "lock", "choice":
		return r.branching(t, nowhere)
	case "proc", "fun", "lazy":
		if t.Kids[0].Do == "var" {
			return r.procedure(t, t.Kids[0].Text)
		}
	}
	v := r.fresh()
	return local([]string{v}, r.val(t, v))
}

// val translates a phrase as the value of a variable.
func (r *translator) val(t api.Tree, x string) api.Stmt {
	switch t.Do {
	case "var":
		return unify(x, t.Text)
	case "any":
		return skip()
	case "int":
		return number(x, numberOf(t.Text))
	case "atom":
		return atom(x, t.Text)
	case "str":
		return r.val(listOf(bytesOf(t.Text)), x)
	case "rec", "list", "cons", "tuple":
		return r.record(t, x)
	case "op", "dot", "neg", "get", "view":
		return r.result(t, x)
	case "call":
		return r.call(t.Kids, []string{x})
	case "seq", "local", "thread", "if", "case", "try", "lock", "choice":
		return r.branching(t, x)
	case "proc", "fun", "lazy":
		return r.procedureAs(t, x)
	case "raise":
		return r.raise(t)
	case "comp":
		return r.comprehension(t.Kids, x)
	}
	return sequence(r.stat(t), atom(x, "unit"))
}
