package kernel

import (
	"slices"

	"manystrand/api"
)

// equation translates E = F.
func (r *translator) equation(e, f api.Tree) api.Stmt {
	switch {
	case e.Do == "var":
		return r.val(f, e.Text)
	case f.Do == "var":
		return r.val(e, f.Text)
	}
	v := r.fresh()
	first := r.val(e, v)
	return local([]string{v}, sequence(first, r.val(f, v)))
}

// record translates a rec, a list, a cons or a tuple.
func (r *translator) record(t api.Tree, x string) api.Stmt {
	label, feats, parts := fieldsOf(t)
	return r.named(parts, func(names []string) api.Stmt { return record(x, label, feats, names) })
}

// operation translates an operation's call, whose last arguments have names already.
func (r *translator) operation(name string, l []api.Tree, last []string) api.Stmt {
	return r.named(l, func(names []string) api.Stmt { return operation(name, append(names, last...)...) })
}

// call translates a call, with the variable for its value behind its arguments, if it has one.
func (r *translator) call(kids []api.Tree, last []string) api.Stmt {
	if kids[0].Do == "var" && r.bound[kids[0].Text] == 0 {
		name := operationOf(kids[0].Text)
		if args := len(kids) - 1 + len(last); args > 0 && args == argsOf(name) {
			return r.operation(name, kids[1:], last)
		}
	}
	return r.named(kids, func(names []string) api.Stmt { return call(names[0], append(names[1:], last...)...) })
}

// result translates what is an operation with a result.
func (r *translator) result(t api.Tree, x string) api.Stmt {
	name := t.Text
	switch {
	case name == "andthen":
		return r.condition([]api.Tree{t.Kids[0], t.Kids[1], {Do: "atom", Text: "false"}}, x)
	case name == "orelse":
		return r.condition([]api.Tree{t.Kids[0], {Do: "atom", Text: "true"}, t.Kids[1]}, x)
	case t.Do == "neg":
		name = "~"
	case t.Do != "op":
		name = t.Do
	}
	return r.operation(name, t.Kids, []string{x})
}

func (r *translator) raise(t api.Tree) api.Stmt {
	return r.named(t.Kids, func(names []string) api.Stmt { return api.Stmt{Do: "raise", Args: names} })
}

// branching translates what is a statement and a value alike, but for its branches.
func (r *translator) branching(t api.Tree, x string) api.Stmt {
	kids, last := t.Kids, len(t.Kids)-1
	switch t.Do {
	case "seq":
		return sequence(append(r.branches(kids[:last], nowhere), r.branch(kids[last], x))...)
	case "local":
		return local(textsOf(kids[:last]), r.within(kids[:last], kids[last], x))
	case "if":
		return r.condition(kids, x)
	case "case":
		return r.named(kids[:1], func(names []string) api.Stmt { return r.arms(names[0], kids[1:], x) })
	case "try":
		body := r.branch(kids[0], x)
		return attempt(kids[1].Text, body, r.within(kids[1:2], kids[2], x))
	case "lock":
		return r.lock(kids, x)
	}
	// What is left are thread and choice, which have nothing but branches.
	return api.Stmt{Do: t.Do, Kids: r.branches(kids, x)}
}

func (r *translator) branches(l []api.Tree, x string) []api.Stmt {
	var all []api.Stmt
	for _, t := range l {
		all = append(all, r.branch(t, x))
	}
	return all
}

// condition translates an if, with or without an else.
func (r *translator) condition(kids []api.Tree, x string) api.Stmt {
	return r.named(kids[:1], func(names []string) api.Stmt {
		yes := r.branch(kids[1], x)
		switch {
		case len(kids) > 2:
			return condition(names[0], yes, r.branch(kids[2], x))
		case x == nowhere:
			return condition(names[0], yes, skip())
		}
		return condition(names[0], yes, atom(x, "unit"))
	})
}

func (r *translator) lock(kids []api.Tree, x string) api.Stmt {
	return r.named(kids[:1], func(names []string) api.Stmt {
		l, e := names[0], r.fresh()
		body := r.branch(kids[1], x)
		caught := sequence(operation("give", l), api.Stmt{Do: "raise", Args: []string{e}})
		return sequence(operation("take", l), attempt(e, body, caught), operation("give", l))
	})
}

// procedure translates a proc or a function as one of a name.
func (r *translator) procedure(t api.Tree, name string) api.Stmt {
	last := len(t.Kids) - 1
	parameters, body := t.Kids[1:last], t.Kids[last]
	names := textsOf(parameters)
	switch t.Do {
	case "fun":
		result := r.fresh()
		return procedure(name, append(names, result), r.within(parameters, body, result))
	case "lazy":
		result, later, value := r.fresh(), r.fresh(), r.fresh()
		when := procedure(later, []string{value}, r.within(parameters, body, value))
		return procedure(name, append(names, result), local([]string{later}, sequence(when, operation("byneed", later, result))))
	}
	return procedure(name, names, r.within(parameters, body, nowhere))
}

// procedureAs translates a proc or a function as a value.
func (r *translator) procedureAs(t api.Tree, x string) api.Stmt {
	if t.Kids[0].Do == "any" {
		return r.procedure(t, x)
	}
	name := t.Kids[0].Text
	return sequence(r.procedure(t, name), unify(x, name))
}

func textsOf(l []api.Tree) []string {
	var texts []string
	for _, t := range l {
		texts = append(texts, t.Text)
	}
	return texts
}

// hasOpen reports whether a valid phrase has an open record that is no pattern.
func hasOpen(t api.Tree) bool {
	if t.Do == "arm" {
		return hasOpen(t.Kids[1])
	}
	return t.Do == "open" || slices.ContainsFunc(t.Kids, hasOpen)
}
