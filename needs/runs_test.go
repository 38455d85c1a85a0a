package needs_test

import (
	"math/rand"
	"slices"
	"testing"

	"manystrand/api"
	"manystrand/kernel"
	"manystrand/needs"
)

// A value is a variable of a run: what it is the same as, or else all that it may be. Nothing fails in
// such a run, and all Kids are done: it does more than any run of the machine.
type value struct {
	same  *value
	procs []closure
	recs  []*value // the parts of records a(1:V)
	cells []*value
}

type closure struct {
	proc api.Stmt
	env  map[string]*value
}

func (v *value) itself() *value {
	for v.same != nil {
		v = v.same
	}
	return v
}

// A run does a program, task for task.
type run struct {
	tasks   []func()
	layers  map[int]bool
	began   map[string]bool // the variables of the procedures that were called
	unknown map[string]bool // those that were called by another name
}

func (r *run) unify(a, b *value) {
	a, b = a.itself(), b.itself()
	if a == b {
		return
	}
	a.same = b
	b.procs = append(b.procs, a.procs...)
	for _, l := range []struct{ from, to *[]*value }{{&a.recs, &b.recs}, {&a.cells, &b.cells}} {
		if len(*l.from) > 0 && len(*l.to) > 0 {
			r.unify((*l.from)[0], (*l.to)[0])
		}
		*l.to = append(*l.to, *l.from...)
	}
}

func with(env map[string]*value, names []string, values ...*value) map[string]*value {
	more := map[string]*value{}
	for name, v := range env {
		more[name] = v
	}
	for i, name := range names {
		if i < len(values) {
			more[name] = values[i]
		} else {
			more[name] = &value{}
		}
	}
	return more
}

func (r *run) later(s api.Stmt, env map[string]*value) {
	r.tasks = append(r.tasks, func() { r.do(s, env) })
}

func (r *run) do(s api.Stmt, env map[string]*value) {
	args := make([]*value, len(s.Args))
	for i, name := range s.Args {
		if v, ok := env[name]; ok {
			args[i] = v.itself()
		}
	}
	switch s.Do {
	case "local", "try":
		env = with(env, s.Args)
	case "eq":
		r.unify(args[0], args[1])
	case "rec":
		r.unify(args[0], &value{recs: []*value{args[1]}})
	case "proc":
		args[0].procs = append(args[0].procs, closure{s, env})
		return
	case "case":
		r.later(s.Kids[1], env)
		r.match(s, env, args[0])
		return
	case "call":
		r.call(s.Args[0], args[0], args[1:])
	case "op":
		r.operation(s.Name, args)
	}
	switch s.Do {
	case "thread":
		r.layers[1] = true
	case "try", "raise":
		r.layers[3] = true
	}
	for _, kid := range s.Kids {
		r.later(kid, env)
	}
}

// match waits for a record by trying again, as call does for a procedure.
func (r *run) match(s api.Stmt, env map[string]*value, x *value) {
	if len(x.recs) > 0 {
		r.later(s.Kids[0], with(env, s.Args[1:], x.recs...))
		return
	}
	r.tasks = append(r.tasks, func() { r.match(s, env, x.itself()) })
}

func (r *run) call(name string, x *value, args []*value) {
	if len(x.procs) == 0 {
		r.tasks = append(r.tasks, func() { r.call(name, x.itself(), args) })
		return
	}
	for _, p := range x.procs {
		if len(p.proc.Args) == len(args)+1 {
			own := p.proc.Args[0]
			r.began[own] = true
			if own != name {
				r.unknown[own] = true
			}
			r.later(p.proc.Kids[0], with(p.env, p.proc.Args[1:], args...))
		}
	}
}

func (r *run) operation(name string, args []*value) {
	layer, _ := needs.Of(name)
	r.layers[layer] = true
	switch name {
	case "byneed":
		r.call("", args[0], args[1:])
	case "cell":
		args[1].cells = append(args[1].cells, args[0])
	case "get":
		if len(args[0].cells) > 0 {
			r.unify(args[1], args[0].cells[0])
		}
	case "view":
		r.unify(args[0], args[1])
	}
}

// runOf does up to some hundred tasks of a program, in a random order.
func runOf(s api.Stmt, m maker) *run {
	r := &run{layers: map[int]bool{0: true}, began: map[string]bool{}, unknown: map[string]bool{}}
	r.later(s, map[string]*value{})
	for done := 0; done < 300 && len(r.tasks) > 0; done++ {
		at := m.Intn(len(r.tasks))
		task := r.tasks[at]
		r.tasks = slices.Delete(r.tasks, at, at+1)
		task()
	}
	return r
}

// TestRuns: no run does what the program does not need, begins a procedure that is not reached, or one
// of which all calls are known by another name.
func TestRuns(t *testing.T) {
	m := maker{rand.New(rand.NewSource(45))}
	began, known := 0, 0
	for range 6000 {
		s := api.Stmt{Do: "local", Args: []string{"A", "B", "C", "D", "Z"}, Kids: []api.Stmt{m.statement(3 + m.Intn(6))}}
		s, err := kernel.Rename(s)
		if err != api.OK {
			continue
		}
		a, r := first(t, s), runOf(s, m)
		for layer := range r.layers {
			if !slices.Contains(a.needs, layer) {
				t.Fatalf("P4.5: a run does what is of layer %d, %v needs %v", layer, s, a.needs)
			}
		}
		for name := range r.began {
			began++
			if !slices.Contains(a.reached, name) {
				t.Fatalf("P4.5: a run calls %s, reached in %v are %v", name, s, a.reached)
			}
			if slices.Contains(a.known, name) {
				known++
			}
		}
		for name := range r.unknown {
			if slices.Contains(a.known, name) {
				t.Fatalf("P4.2: not all calls of %s are known in %v", name, s)
			}
		}
	}
	if min(began, known) < 100 {
		t.Errorf("too few: %d procedures were called, %d of them by known calls", began, known)
	}
}
