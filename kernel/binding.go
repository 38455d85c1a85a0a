package kernel

import (
	"slices"
	"strconv"

	"manystrand/api"
)

// split parts the variables of a statement into those that it uses and those, behind them, that it
// binds, and tells in which of its Kids.
func split(s api.Stmt) (uses, binds []string, within int) {
	at := len(s.Args)
	switch s.Do {
	case "local":
		at = 0
	case "proc", "case":
		at = 1
	case "try":
		at, within = 0, 1
	}
	return s.Args[:at], s.Args[at:], within
}

// A collector collects the variables that stand free.
type collector struct {
	bound map[string]int // how many of the statements around bind a variable
	found map[string]bool
	free  []string
}

func (c *collector) statement(s api.Stmt) {
	uses, binds, within := split(s)
	for _, name := range uses {
		if c.bound[name] == 0 && !c.found[name] {
			c.found[name] = true
			c.free = append(c.free, name)
		}
	}
	for i, kid := range s.Kids {
		if i == within {
			c.bind(binds, 1)
		}
		c.statement(kid)
		if i == within {
			c.bind(binds, -1)
		}
	}
}

func (c *collector) bind(names []string, more int) {
	for _, name := range names {
		c.bound[name] += more
	}
}

// A renamer gives variables their names anew, in the order in which they are bound.
type renamer struct {
	prefix string
	bound  int
	names  map[string][]string // of each variable that is bound around, that of the innermost one last
}

// renamed returns a valid statement whose bound variables have a prefix and numbers from 1 on.
func renamed(s api.Stmt, prefix string) api.Stmt {
	r := renamer{prefix: prefix, names: map[string][]string{}}
	return r.statement(s)
}

func (r *renamer) statement(s api.Stmt) api.Stmt {
	s = copiedAlone(s)
	uses, binds, within := split(s)
	for i, name := range uses {
		if l := r.names[name]; len(l) > 0 {
			uses[i] = l[len(l)-1]
		}
	}
	for i, kid := range s.Kids {
		if i == within {
			s.Kids[i] = r.below(binds, kid)
		} else {
			s.Kids[i] = r.statement(kid)
		}
	}
	return s
}

// below renames what stands where some variables are bound, and these themselves in their place.
func (r *renamer) below(binds []string, kid api.Stmt) api.Stmt {
	before := slices.Clone(binds)
	for i, name := range before {
		r.bound++
		binds[i] = r.prefix + strconv.Itoa(r.bound)
		r.names[name] = append(r.names[name], binds[i])
	}
	kid = r.statement(kid)
	for _, name := range before {
		r.names[name] = r.names[name][:len(r.names[name])-1]
	}
	return kid
}
