package tree

import (
	"slices"

	"manystrand/api"
	"manystrand/token"
)

// tokenOf returns the token that a phrase is: one of no kind, if the phrase is none that is a token.
func tokenOf(t api.Tree) api.Token {
	switch t.Do {
	case "var", "atom", "int":
		return api.Token{Kind: t.Do, Text: t.Text}
	case "str":
		return api.Token{Kind: "text", Text: t.Text}
	}
	return api.Token{}
}

func isVar(t api.Tree) bool {
	return t.Do == "var" && t.N == 0 && len(t.Kids) == 0 && token.IsVar(t.Text)
}

func isAny(t api.Tree) bool {
	return t.Do == "any" && t.Text == "" && t.N == 0 && len(t.Kids) == 0
}

func isOperation(text string) bool {
	switch text {
	case "+", "-", "*", "div", "mod", "==", "\\=", "<", "=<", ">", ">=", "andthen", "orelse":
		return true
	}
	return false
}

// isPhrase reports whether a tree is as the chapter's table has it. It looks at no limit: who calls
// it has done so, as a tree of raw data may have no end.
func isPhrase(t api.Tree) bool {
	switch t.Do {
	case "var", "atom", "int", "str":
		return t.N == 0 && len(t.Kids) == 0 && token.Valid(tokenOf(t))
	case "rec", "open":
		return isRecord(t)
	case "op":
		return t.N == 0 && isOperation(t.Text) && len(t.Kids) == 2 && arePhrases(t.Kids)
	case "local":
		return t.Text == "" && t.N > 0 && t.N == len(t.Kids)-1 && areVars(t.Kids[:t.N]) && isPhrase(t.Kids[t.N])
	}
	return t.Text == "" && t.N == 0 && (isPlain(t) || isBinding(t.Do, t.Kids))
}

func arePhrases(l []api.Tree) bool {
	return !slices.ContainsFunc(l, func(t api.Tree) bool { return !isPhrase(t) })
}

// isPlain holds for phrases whose Kids are phrases, and nothing but phrases.
func isPlain(t api.Tree) bool {
	least, most := 0, 0
	switch t.Do {
	case "any", "skip":
	case "list", "call", "choice":
		least, most = 1, api.MaxTree
	case "tuple", "seq":
		least, most = 2, api.MaxTree
	case "cons", "dot", "set", "eq", "lock":
		least, most = 2, 2
	case "neg", "get", "view", "thread", "raise":
		least, most = 1, 1
	case "if":
		least, most = 2, 3
	default:
		return false
	}
	return least <= len(t.Kids) && len(t.Kids) <= most && arePhrases(t.Kids)
}

// isBinding holds for the Kids of phrases in which variables or patterns stand.
func isBinding(do string, kids []api.Tree) bool {
	switch do {
	case "proc", "fun", "lazy":
		return isProcedure(kids)
	case "case":
		return len(kids) > 1 && isPhrase(kids[0]) && areArms(kids[1:])
	case "try":
		return len(kids) == 3 && isPhrase(kids[0]) && isVar(kids[1]) && isPhrase(kids[2])
	case "for":
		return len(kids) == 4 && isVar(kids[0]) && arePhrases(kids[1:])
	case "each":
		return len(kids) == 3 && isVar(kids[0]) && arePhrases(kids[1:])
	case "comp":
		return (len(kids) == 3 || len(kids) == 4) && isPhrase(kids[0]) && isVar(kids[1]) && arePhrases(kids[2:])
	}
	return false
}

func isProcedure(kids []api.Tree) bool {
	last := len(kids) - 1
	return last > 0 && (isVar(kids[0]) || isAny(kids[0])) && areVars(kids[1:last]) && isPhrase(kids[last])
}

// areVars reports whether phrases are variables, all of them different.
func areVars(l []api.Tree) bool {
	seen := map[string]bool{}
	for _, t := range l {
		if !isVar(t) || seen[t.Text] {
			return false
		}
		seen[t.Text] = true
	}
	return true
}

// areArms reports whether what follows the subject of a case is an arm or more, and at most one phrase.
func areArms(l []api.Tree) bool {
	arms := len(l)
	if l[arms-1].Do != "arm" {
		arms--
	}
	return arms > 0 && arePhrases(l[arms:]) && !slices.ContainsFunc(l[:arms], func(t api.Tree) bool { return !isArm(t) })
}

func isArm(t api.Tree) bool {
	return t.Do == "arm" && t.Text == "" && t.N == 0 && len(t.Kids) == 2 && isPattern(t.Kids[0]) && isPhrase(t.Kids[1])
}

func isRecord(t api.Tree) bool {
	if t.N != 0 || !IsFeat(api.Feat{Text: t.Text}) || t.Do == "rec" && len(t.Kids) == 0 {
		return false
	}
	for i, kid := range t.Kids {
		if i > 0 && !Less(featOf(t.Kids[i-1]), featOf(kid)) || !isField(kid) {
			return false
		}
	}
	return true
}

func isField(t api.Tree) bool {
	return t.Do == "field" && IsFeat(featOf(t)) && len(t.Kids) == 1 && isPhrase(t.Kids[0])
}

func featOf(field api.Tree) api.Feat { return api.Feat{N: field.N, Text: field.Text} }

// isPattern reports whether a tree, within the limits or not, is a pattern.
func isPattern(t api.Tree) bool { return isPhrase(t) && isOfPatterns(t, map[string]bool{}) }

// isOfPatterns looks at a valid phrase, or a field; seen are the variables that stand ahead of it.
func isOfPatterns(t api.Tree, seen map[string]bool) bool {
	switch t.Do {
	case "any", "atom", "int":
		return true
	case "var":
		again := seen[t.Text]
		seen[t.Text] = true
		return !again
	case "rec", "open", "field", "list", "cons", "tuple":
		return !slices.ContainsFunc(t.Kids, func(kid api.Tree) bool { return !isOfPatterns(kid, seen) })
	}
	return false
}
