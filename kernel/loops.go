package kernel

import (
	"manystrand/api"
)

// loop translates a loop over numbers: a procedure that calls itself with the next one.
func (r *translator) loop(kids []api.Tree) api.Stmt {
	x := kids[0].Text
	return r.named(kids[1:3], func(names []string) api.Stmt {
		first, last := names[0], names[1]
		again, isLeft, one, next := r.fresh(), r.fresh(), r.fresh(), r.fresh()
		goOn := local([]string{one, next}, sequence(number(one, 1), operation("+", x, one, next), call(again, next)))
		body := sequence(r.within(kids[:1], kids[3], nowhere), goOn)
		turn := local([]string{isLeft}, sequence(operation("=<", x, last, isLeft), condition(isLeft, body, skip())))
		return repeated(procedure(again, []string{x}, turn), first)
	})
}

// traversal translates a loop over the parts of a list.
func (r *translator) traversal(kids []api.Tree) api.Stmt {
	x := kids[0].Text
	return r.named(kids[1:2], func(names []string) api.Stmt {
		again, list, rest := r.fresh(), r.fresh(), r.fresh()
		body := sequence(r.within(kids[:1], kids[2], nowhere), call(again, rest))
		turn := match(list, pairLabel, numbered(2), []string{x, rest}, body, skip())
		return repeated(procedure(again, []string{list}, turn), names[0])
	})
}

// comprehension translates the list of what a phrase gives for the parts of a list, or for some.
func (r *translator) comprehension(kids []api.Tree, x string) api.Stmt {
	y := kids[1].Text
	return r.named(kids[2:3], func(names []string) api.Stmt {
		again, list, result, rest, head, tail := r.fresh(), r.fresh(), r.fresh(), r.fresh(), r.fresh(), r.fresh()
		taken := func() api.Stmt {
			first := r.val(kids[0], head)
			return local([]string{head, tail}, sequence(pair(result, head, tail), first, call(again, rest, tail)))
		}
		passed := call(again, rest, result)
		r.bind(kids[1:2], 1)
		body := r.filtered(kids[3:], taken, passed)
		r.bind(kids[1:2], -1)
		turn := match(list, pairLabel, numbered(2), []string{y, rest}, body, atom(result, "nil"))
		return repeated(procedure(again, []string{list, result}, turn), names[0], x)
	})
}

// filtered makes the statement of a part that is taken, or of one that is taken or passed as a filter says.
func (r *translator) filtered(filter []api.Tree, taken func() api.Stmt, passed api.Stmt) api.Stmt {
	if len(filter) == 0 {
		return taken()
	}
	return r.named(filter, func(names []string) api.Stmt { return condition(names[0], taken(), passed) })
}

// repeated makes a procedure that calls itself, and calls it first.
func repeated(p api.Stmt, arguments ...string) api.Stmt {
	name := p.Args[0]
	return local([]string{name}, sequence(p, call(name, arguments...)))
}
