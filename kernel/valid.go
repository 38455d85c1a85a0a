package kernel

import (
	"slices"
	"strings"

	"manystrand/api"
	"manystrand/token"
	"manystrand/tree"
)

// newSign is the begin of all new variables, and of no variable of a source.
const newSign = "_"

// isNew reports whether a name is that of a new variable.
func isNew(name string) bool {
	digits, found := strings.CutPrefix(name, newSign)
	return found && digits != "0" && !strings.HasPrefix(digits, "~") && token.Valid(api.Token{Kind: "int", Text: digits})
}

func isVariable(name string) bool { return token.IsVar(name) || isNew(name) }

func isLabel(name string) bool { return token.Valid(api.Token{Kind: "atom", Text: name}) }

func areVariables(l []string) bool {
	return !slices.ContainsFunc(l, func(name string) bool { return !isVariable(name) })
}

func areDifferent(l []string) bool {
	seen := map[string]bool{}
	for _, name := range l {
		if seen[name] {
			return false
		}
		seen[name] = true
	}
	return true
}

func areAscending(l []api.Feat) bool {
	for i, f := range l {
		if !tree.IsFeat(f) || i > 0 && !tree.Less(l[i-1], f) {
			return false
		}
	}
	return true
}

// isStatement reports whether a statement is as the chapter's table has it. It looks at no limit:
// who calls it has done so, as a statement of raw data may have no end.
func isStatement(s api.Stmt) bool {
	return areVariables(s.Args) && isShaped(s) && !slices.ContainsFunc(s.Kids, func(kid api.Stmt) bool { return !isStatement(kid) })
}

// isShaped looks at one statement, and not at what its names and its Kids are like.
func isShaped(s api.Stmt) bool {
	args, kids := len(s.Args), len(s.Kids)
	switch s.Do {
	case "int":
		return args == 1 && kids == 0 && isNumber(s)
	case "number":
		return args == 1 && kids == 2 && isNumber(s)
	case "rec":
		return s.N == 0 && kids == 0 && isLabel(s.Name) && isRecord(s)
	case "case":
		return kids == 2 && isLabelAsked(s) && areDifferent(s.Args) && isRecord(s)
	case "op":
		return s.N == 0 && len(s.Feats) == 0 && kids == 0 && args > 0 && args == argsOf(s.Name)
	}
	return s.N == 0 && s.Name == "" && len(s.Feats) == 0 && isPlain(s)
}

func isNumber(s api.Stmt) bool {
	return -api.MaxInt <= s.N && s.N <= api.MaxInt && s.Name == "" && len(s.Feats) == 0
}

// isRecord holds for a variable, and features that have a variable each.
func isRecord(s api.Stmt) bool { return len(s.Args) == 1+len(s.Feats) && areAscending(s.Feats) }

// isLabelAsked holds for a case that asks for a label, or for none and says so.
func isLabelAsked(s api.Stmt) bool {
	switch s.N {
	case fieldsJust, fieldsAtLeast:
		return isLabel(s.Name)
	case anyLabel:
		return s.Name == ""
	}
	return false
}

// isPlain looks at statements that have nothing but Args and Kids.
func isPlain(s api.Stmt) bool {
	args, kids := len(s.Args), len(s.Kids)
	switch s.Do {
	case "skip":
		return args == 0 && kids == 0
	case "seq":
		return args == 0 && kids > 1 && !slices.ContainsFunc(s.Kids, func(kid api.Stmt) bool { return kid.Do == "seq" })
	case "local":
		return args > 0 && areDifferent(s.Args) && kids == 1
	case "eq":
		return args == 2 && kids == 0
	case "proc":
		return args > 0 && areDifferent(s.Args[1:]) && kids == 1
	case "if", "try":
		return args == 1 && kids == 2
	case "call":
		return args > 0 && kids == 0
	case "thread":
		return args == 0 && kids == 1
	case "raise":
		return args == 1 && kids == 0
	case "choice":
		return args == 0 && kids > 0
	}
	return false
}
