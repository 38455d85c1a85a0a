package needs

import "manystrand/api"

// greatest is the last of the layers 0, 1, ..
const greatest = 8

// layers is a set of layers: bit n is layer n.
type layers uint

func only(layer int) layers { return 1 << layer }

func (l layers) has(layer int) bool {
	return 0 <= layer && layer <= greatest && l&only(layer) != 0
}

func (l layers) list() []int {
	var all []int
	for layer := range greatest + 1 {
		if l.has(layer) {
			all = append(all, layer)
		}
	}
	return all
}

// layerOfStatement returns the layer that a statement itself needs, its Kids aside.
func layerOfStatement(s api.Stmt) int {
	switch s.Do {
	case "thread":
		return 1
	case "try", "raise":
		return 3
	case "choice":
		return 7
	case "op":
		layer, _ := layerOf(s.Name)
		return layer
	}
	return 0
}

// layerOf returns the layer of one of layer 13's operations, and whether there is such an operation.
func layerOf(op string) (int, bool) {
	switch op {
	case "+", "-", "*", "div", "mod", "~", "<", "=<", ">", ">=", "==", "\\=", "label", "arity", "width",
		"dot", "has", "parts", "adjoin", "make", "wait", "show", "nomatch", "domain", "post":
		return 0, true
	case "byneed", "need":
		return 2, true
	case "newname", "chunk", "view":
		return 4, true
	case "port", "send":
		return 5, true
	case "det", "cell", "get", "set", "swap", "lock", "take", "give", "dict", "array", "put", "remove",
		"keys", "priority", "self":
		return 6, true
	case "space", "ask", "commit", "clone", "merge", "inject", "kill":
		return 7, true
	case "fail":
		return 8, true
	}
	return 0, false
}

// promise returns what is promised of a program that needs just these layers.
func promise(l layers) string {
	switch {
	case l&^(only(0)|only(1)|only(2)) == 0:
		return "one result"
	case l&^(only(0)|only(3)) == 0:
		// Without threads there is but one order, so an exception is the same one in each run.
		return "one result or an exception"
	}
	return "some result"
}
