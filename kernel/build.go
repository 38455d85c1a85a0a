package kernel

import (
	"manystrand/api"
)

// The kinds of a case's N: what a record must have besides the features that the case names.
const (
	fieldsJust    = 0 // the label, and no other features
	fieldsAtLeast = 1 // the label
	anyLabel      = 2
)

// pairLabel is the label of the records of which lists are made.
const pairLabel = "|"

// sequence returns statements one after the other, flat.
func sequence(l ...api.Stmt) api.Stmt {
	var flat []api.Stmt
	for _, s := range l {
		if s.Do == "seq" {
			flat = append(flat, s.Kids...)
		} else {
			flat = append(flat, s)
		}
	}
	if len(flat) == 1 {
		return flat[0]
	}
	return api.Stmt{Do: "seq", Kids: flat}
}

// local returns a statement below its variables: the statement alone, if there are none.
func local(vars []string, s api.Stmt) api.Stmt {
	if len(vars) == 0 {
		return s
	}
	return api.Stmt{Do: "local", Args: vars, Kids: []api.Stmt{s}}
}

func skip() api.Stmt { return api.Stmt{Do: "skip"} }

func unify(x, y string) api.Stmt { return api.Stmt{Do: "eq", Args: []string{x, y}} }

func number(x string, n int) api.Stmt { return api.Stmt{Do: "int", Args: []string{x}, N: n} }

func atom(x, name string) api.Stmt { return record(x, name, nil, nil) }

func pair(x, first, rest string) api.Stmt {
	return record(x, pairLabel, numbered(2), []string{first, rest})
}

func record(x, label string, feats []api.Feat, parts []string) api.Stmt {
	return api.Stmt{Do: "rec", Name: label, Feats: feats, Args: join(x, parts)}
}

func procedure(x string, parameters []string, body api.Stmt) api.Stmt {
	return api.Stmt{Do: "proc", Args: join(x, parameters), Kids: []api.Stmt{body}}
}

func call(x string, arguments ...string) api.Stmt {
	return api.Stmt{Do: "call", Args: join(x, arguments)}
}

func operation(name string, arguments ...string) api.Stmt {
	return api.Stmt{Do: "op", Name: name, Args: arguments}
}

func condition(x string, yes, no api.Stmt) api.Stmt {
	return api.Stmt{Do: "if", Args: []string{x}, Kids: []api.Stmt{yes, no}}
}

func match(x, label string, feats []api.Feat, parts []string, yes, no api.Stmt) api.Stmt {
	return api.Stmt{Do: "case", Name: label, Feats: feats, Args: join(x, parts), Kids: []api.Stmt{yes, no}}
}

func matchNumber(x string, n int, yes, no api.Stmt) api.Stmt {
	return api.Stmt{Do: "number", Args: []string{x}, N: n, Kids: []api.Stmt{yes, no}}
}

func attempt(x string, body, caught api.Stmt) api.Stmt {
	return api.Stmt{Do: "try", Args: []string{x}, Kids: []api.Stmt{body, caught}}
}

func join(x string, l []string) []string { return append([]string{x}, l...) }

// numbered returns the features 1 to n.
func numbered(n int) []api.Feat {
	var l []api.Feat
	for i := range n {
		l = append(l, api.Feat{N: i + 1})
	}
	return l
}
