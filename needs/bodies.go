package needs

import (
	"cmp"
	"slices"

	"manystrand/api"
)

// A binding is a variable: what one statement binds, or one that is free.
type binding struct {
	name    string
	isLocal bool    // a `local` binds it
	procs   []*body // the procedures that are its values by a `proc`
	used    bool    // it stands at another place than as the X of a `proc`, or as what is called
	reached []*body // those of its procs that stand in a body that is reached
	stands  bool    // it is called or used in a body that is reached
}

// isKnown reports whether what calls a variable calls just the one procedure that it always is.
func (v *binding) isKnown() bool { return v.isLocal && len(v.procs) == 1 && !v.used }

// A body is what a program, or a procedure, does itself, without what procedures in it do.
type body struct {
	place   int      // 0: the program; of procedures the place of the `proc`, in the order of the text
	gives   *binding // the X of the `proc`; nil: the program
	layers  layers
	procs   []*body    // the procedures that stand in it
	calls   []*binding // what stands as the first Arg of a call
	uses    []*binding // what stands at other places than such, or the X of a `proc`
	reached bool
}

// name returns the name of a procedure's variable, or an empty text for the program.
func (b *body) name() string {
	if b.gives == nil {
		return ""
	}
	return b.gives.name
}

// knownCalls returns the procedures of a body's known calls, in the order of their places.
func (b *body) knownCalls() []*body {
	var called []*body
	for _, v := range b.calls {
		if v.isKnown() {
			called = append(called, v.procs[0])
		}
	}
	slices.SortStableFunc(called, func(p, q *body) int { return cmp.Compare(p.place, q.place) })
	return called
}

// A reader reads a statement into bodies.
type reader struct {
	bodies []*body
	names  map[string][]*binding // of each name the variables that it is around, the innermost one last
}

// read returns the program of a valid statement, and behind it all its procedures in the order of the
// text. What can be reached is marked.
func read(s api.Stmt) []*body {
	program := &body{}
	r := reader{bodies: []*body{program}, names: map[string][]*binding{}}
	r.statement(s, program)
	program.reach()
	return r.bodies
}

func (r *reader) statement(s api.Stmt, b *body) {
	b.layers |= only(layerOfStatement(s))
	switch s.Do {
	case "local":
		r.bind(s.Args, true, func() { r.statement(s.Kids[0], b) })
	case "proc":
		r.procedure(s, b)
	case "case":
		r.use(s.Args[:1], b)
		r.bind(s.Args[1:], false, func() { r.statement(s.Kids[0], b) })
		r.statement(s.Kids[1], b)
	case "try":
		r.statement(s.Kids[0], b)
		r.bind(s.Args, false, func() { r.statement(s.Kids[1], b) })
	case "call":
		b.calls = append(b.calls, r.variable(s.Args[0]))
		r.use(s.Args[1:], b)
	default:
		r.use(s.Args, b)
		for _, kid := range s.Kids {
			r.statement(kid, b)
		}
	}
}

func (r *reader) procedure(s api.Stmt, around *body) {
	x := r.variable(s.Args[0])
	p := &body{place: len(r.bodies), gives: x}
	x.procs = append(x.procs, p)
	around.procs = append(around.procs, p)
	r.bodies = append(r.bodies, p)
	r.bind(s.Args[1:], false, func() { r.statement(s.Kids[0], p) })
}

// bind reads a statement in which names are new variables.
func (r *reader) bind(names []string, isLocal bool, read func()) {
	for _, name := range names {
		r.names[name] = append(r.names[name], &binding{name: name, isLocal: isLocal})
	}
	read()
	for _, name := range names {
		r.names[name] = r.names[name][:len(r.names[name])-1]
	}
}

// variable returns what a name stands for. One that nothing binds is itself a variable from then on.
func (r *reader) variable(name string) *binding {
	if len(r.names[name]) == 0 {
		r.names[name] = []*binding{{name: name}}
	}
	l := r.names[name]
	return l[len(l)-1]
}

func (r *reader) use(names []string, b *body) {
	for _, name := range names {
		v := r.variable(name)
		v.used = true
		b.uses = append(b.uses, v)
	}
}
