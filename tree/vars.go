package tree

import (
	"manystrand/api"
)

// A scope collects the variables that stand free.
type scope struct {
	bound map[string]int // how many of the phrases around bind a variable
	found map[string]bool
	free  []string
}

func (s *scope) phrase(t api.Tree) {
	kids, last := t.Kids, len(t.Kids)-1
	switch t.Do {
	case "var":
		s.variable(t.Text)
	case "local":
		s.within(kids[:last], kids[last])
	case "proc", "fun", "lazy":
		s.phrase(kids[0])
		s.within(kids[1:last], kids[last])
	case "arm":
		s.within(kids[:1], kids[1])
	case "try":
		s.phrase(kids[0])
		s.within(kids[1:2], kids[2])
	case "for", "each":
		s.phrases(kids[1:last])
		s.within(kids[:1], kids[last])
	case "comp":
		s.within(kids[1:2], kids[0])
		s.phrase(kids[2])
		s.within(kids[1:2], kids[3:]...)
	default:
		s.phrases(kids)
	}
}

func (s *scope) phrases(l []api.Tree) {
	for _, t := range l {
		s.phrase(t)
	}
}

func (s *scope) variable(name string) {
	if s.bound[name] == 0 && !s.found[name] {
		s.found[name] = true
		s.free = append(s.free, name)
	}
}

// within goes through phrases in which patterns bind their variables.
func (s *scope) within(patterns []api.Tree, l ...api.Tree) {
	s.bind(patterns, 1)
	s.phrases(l)
	s.bind(patterns, -1)
}

func (s *scope) bind(patterns []api.Tree, more int) {
	for _, t := range patterns {
		if t.Do == "var" {
			s.bound[t.Text] += more
		}
		s.bind(t.Kids, more)
	}
}
