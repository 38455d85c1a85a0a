package kernel

import (
	"strconv"
	"strings"

	"manystrand/api"
	"manystrand/token"
)

// lines returns the lines of a valid statement, all of them behind some blanks.
func lines(s api.Stmt, blanks string) []string {
	if len(s.Kids) == 0 {
		return []string{blanks + single(s)}
	}
	var l []string
	if s.Do == "seq" {
		for _, kid := range s.Kids {
			l = append(l, lines(kid, blanks)...)
		}
		return l
	}
	for i, kid := range s.Kids {
		l = append(l, blanks+opening(s, i))
		l = append(l, lines(kid, blanks+"  ")...)
	}
	return append(l, blanks+"end")
}

// single returns the line of a statement without Kids.
func single(s api.Stmt) string {
	switch s.Do {
	case "eq":
		return s.Args[0] + " = " + s.Args[1]
	case "int":
		return s.Args[0] + " = " + textOf(s.N)
	case "rec":
		return s.Args[0] + " = " + shape(s)
	case "call":
		return "{" + words(s.Args...) + "}"
	case "op":
		return words("op", s.Name, words(s.Args...))
	case "raise":
		return words("raise", s.Args[0])
	}
	return s.Do
}

// opening returns the line ahead of one of the Kids of a statement.
func opening(s api.Stmt, kid int) string {
	switch s.Do {
	case "local":
		return words("local", words(s.Args...), "in")
	case "proc":
		return s.Args[0] + " = proc {" + words(s.Args[1:]...) + "}"
	case "choice":
		if kid > 0 {
			return "[]"
		}
	case "try":
		if kid > 0 {
			return words("catch", s.Args[0], "then")
		}
	case "if", "number", "case":
		if kid > 0 {
			return "else"
		}
		return words(question(s), "then")
	}
	return s.Do
}

func question(s api.Stmt) string {
	switch s.Do {
	case "number":
		return words("number", s.Args[0], textOf(s.N))
	case "case":
		return words("case", s.Args[0], "of", shape(s))
	}
	return words("if", s.Args[0])
}

// shape returns the text of the record that a statement makes or asks for.
func shape(s api.Stmt) string {
	label := ""
	if s.Do == "rec" || s.N != anyLabel {
		label = quoted(s.Name)
	}
	var fields []string
	for i, f := range s.Feats {
		fields = append(fields, featOf(f)+":"+s.Args[i+1])
	}
	if s.N != fieldsJust {
		fields = append(fields, "...")
	}
	if len(fields) == 0 {
		return label
	}
	return label + "(" + words(fields...) + ")"
}

func featOf(f api.Feat) string {
	if f.N > 0 {
		return textOf(f.N)
	}
	return quoted(f.Text)
}

func quoted(name string) string {
	text, _ := token.Quote(name)
	return text
}

// textOf returns the token of a number.
func textOf(n int) string { return strings.Replace(strconv.Itoa(n), "-", "~", 1) }

func words(l ...string) string { return strings.Join(l, " ") }
