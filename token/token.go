// Package token is layer 1: the tokens of sources, their kinds, places and texts.
package token

import (
	"strings"

	"manystrand/api"
)

// Tokens returns all tokens of a source.
func Tokens(text string) ([]api.Token, api.Errno) {
	l, _, err := scan(text)
	return l, err
}

// Bad returns the first place of a source at which no token, blank or remark begins.
func Bad(text string) (at int, err api.Errno) {
	_, at, err = scan(text)
	return at, err
}

// Valid reports whether a token's Kind and Text are those of a token.
func Valid(t api.Token) bool {
	switch t.Kind {
	case "var":
		return IsVar(t.Text)
	case "atom":
		return isMeaning(t.Text, api.MaxAtom)
	case "int":
		return isInt(t.Text)
	case "text":
		return isMeaning(t.Text, api.MaxText)
	case "char":
		return len(t.Text) == 1 && isMeaning(t.Text, 1)
	case "key":
		return isKey(t.Text)
	case "sign":
		return isSign(t.Text)
	}
	return false
}

// Text returns the shortest source of a token.
func Text(t api.Token) (string, api.Errno) {
	if !Valid(t) {
		return "", api.ErrToken
	}
	switch t.Kind {
	case "atom":
		return Quote(t.Text)
	case "text":
		return enclose(t.Text, '"'), api.OK
	case "char":
		return "&" + charSource(t.Text[0]), api.OK
	}
	return t.Text, api.OK
}

// Join returns the sources of tokens with one space between each two.
func Join(l []api.Token) (string, api.Errno) {
	var b strings.Builder
	for i, t := range l {
		s, err := Text(t)
		if err != api.OK {
			return "", err
		}
		if i > 0 {
			b.WriteByte(' ')
		}
		b.WriteString(s)
	}
	return b.String(), api.OK
}

// IsVar reports whether a text is that of a var.
func IsVar(s string) bool {
	return isWord(s) && isUpper(s[0])
}

// IsPlain reports whether a text is that of an atom that needs no quotes.
func IsPlain(s string) bool {
	return isWord(s) && isLower(s[0]) && !isKey(s)
}

// Quote returns the source of the atom with this text.
func Quote(s string) (string, api.Errno) {
	if !isMeaning(s, api.MaxAtom) {
		return "", api.ErrToken
	}
	if IsPlain(s) {
		return s, api.OK
	}
	return enclose(s, '\''), api.OK
}

// Where returns the line and the column of a byte of a text, both from 1 on.
func Where(text string, at int) (line, column int, err api.Errno) {
	if at < 0 || at > len(text) {
		return 0, 0, api.ErrArg
	}
	ahead := text[:at]
	return strings.Count(ahead, "\n") + 1, at - strings.LastIndexByte(ahead, '\n'), api.OK
}
