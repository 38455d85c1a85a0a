package token

import (
	"manystrand/api"
)

const longestSign = 3

func isUpper(c byte) bool { return 'A' <= c && c <= 'Z' }

func isLower(c byte) bool { return 'a' <= c && c <= 'z' }

func isDigit(c byte) bool { return '0' <= c && c <= '9' }

func isPrintable(c byte) bool { return ' ' <= c && c <= '~' }

func isBlank(c byte) bool { return c == ' ' || c == '\t' || c == '\n' || c == '\r' }

func isWordByte(c byte) bool { return isUpper(c) || isLower(c) || isDigit(c) || c == '_' }

// isWord holds for what begins like a var, an atom or a digit: who calls it looks at the first byte.
func isWord(s string) bool {
	if s == "" || len(s) > api.MaxAtom {
		return false
	}
	for i := range len(s) {
		if !isWordByte(s[i]) {
			return false
		}
	}
	return true
}

// isMeaning reports whether a text can stand between quotes, once its escapes are written.
func isMeaning(s string, most int) bool {
	if len(s) > most {
		return false
	}
	for i := range len(s) {
		if s[i] != '\n' && !isPrintable(s[i]) {
			return false
		}
	}
	return true
}

func isInt(s string) bool {
	if s == "0" {
		return true
	}
	if s != "" && s[0] == '~' {
		s = s[1:]
	}
	if s == "" || len(s) > 18 || s[0] == '0' {
		return false
	}
	for i := range len(s) {
		if !isDigit(s[i]) {
			return false
		}
	}
	return true
}

func isKey(s string) bool {
	switch s {
	case "andthen", "at", "by", "case", "catch", "choice", "div", "do", "each", "else",
		"end", "for", "fun", "if", "in", "lazy", "local", "lock", "mod", "orelse",
		"proc", "raise", "skip", "then", "thread", "try", "of":
		return true
	}
	return false
}

func isSign(s string) bool {
	switch s {
	case "(", ")", "{", "}", "[", "]", "[]", ".", "|", "#", "=", "\\=", "==", "<", "=<", ">", ">=",
		"+", "-", "*", "~", ":=", "@", "!!", ":", "...", "$", "_":
		return true
	}
	return false
}
