package kernel

import (
	"strings"
)

// argsOf returns how many arguments one of layer 13's operations takes: 0, if there is no such one.
func argsOf(operation string) int {
	switch operation {
	case "wait", "show", "nomatch", "need", "newname", "lock", "take", "give", "dict", "priority",
		"self", "kill":
		return 1
	case "~", "label", "arity", "width", "parts", "det", "byneed", "view", "fail", "chunk", "cell",
		"get", "set", "port", "send", "remove", "keys", "space", "ask", "commit", "clone", "merge",
		"inject":
		return 2
	case "+", "-", "*", "div", "mod", "<", "=<", ">", ">=", "==", "\\=", "dot", "has", "make",
		"swap", "put", "domain":
		return 3
	case "adjoin", "array", "post":
		return 4
	}
	return 0
}

// operationOf returns the name of the operation that a variable's name calls, if there is such one:
// the one with a small letter in front.
func operationOf(variable string) string {
	return strings.ToLower(variable[:1]) + variable[1:]
}
