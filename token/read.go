package token

import (
	"manystrand/api"
)

// A reader reads the token that begins at a place of a source; it returns where the token ends,
// and false if none of the reader's kind begins there.
type reader func(text string, at int) (t api.Token, end int, ok bool)

// scan returns the tokens of a source, or its bad place: both Tokens and Bad have one reading.
func scan(text string) (l []api.Token, bad int, err api.Errno) {
	if len(text) > api.MaxSource {
		return nil, -1, api.ErrLimit
	}
	at := skipGap(text, 0)
	for at < len(text) {
		t, end, ok := readerAt(text, at)(text, at)
		if !ok {
			return nil, at, api.ErrToken
		}
		l = append(l, t)
		at = skipGap(text, end)
	}
	return l, 0, api.OK
}

// readerAt chooses by the first bytes: no two kinds of tokens begin alike, but for the sign `~`
// and an int, and a sign that is the begin of a longer one.
func readerAt(text string, at int) reader {
	c := text[at]
	switch {
	case isUpper(c), isLower(c):
		return readWord
	case isDigit(c), c == '~' && at+1 < len(text) && isDigit(text[at+1]):
		return readInt
	case c == '\'':
		return quoted("atom", api.MaxAtom)
	case c == '"':
		return quoted("text", api.MaxText)
	case c == '&':
		return readChar
	}
	return readSign
}

func readWord(text string, at int) (t api.Token, end int, ok bool) {
	end = at
	for end < len(text) && isWordByte(text[end]) {
		end++
	}
	s := text[at:end]
	switch {
	case IsVar(s):
		return api.Token{Kind: "var", Text: s, At: at}, end, true
	case IsPlain(s):
		return api.Token{Kind: "atom", Text: s, At: at}, end, true
	case isKey(s):
		return api.Token{Kind: "key", Text: s, At: at}, end, true
	}
	return api.Token{}, 0, false
}

func readInt(text string, at int) (t api.Token, end int, ok bool) {
	end = at + 1
	for end < len(text) && isDigit(text[end]) {
		end++
	}
	s := text[at:end]
	if s == "~0" {
		// There is no minus nought: the sign stands by itself, and the int follows.
		return readSign(text, at)
	}
	if !isInt(s) {
		return api.Token{}, 0, false
	}
	return api.Token{Kind: "int", Text: s, At: at}, end, true
}

// quoted makes the reader of what stands between two of the marks at whose first one it begins.
func quoted(kind string, most int) reader {
	return func(text string, at int) (t api.Token, end int, ok bool) {
		mark := text[at]
		var meaning []byte
		for i := at + 1; i < len(text) && len(meaning) <= most; {
			if text[i] == mark {
				return api.Token{Kind: kind, Text: string(meaning), At: at}, i + 1, true
			}
			c, size := readPart(text[i:], mark)
			if size == 0 {
				break
			}
			meaning = append(meaning, c)
			i += size
		}
		return api.Token{}, 0, false
	}
}

// readPart returns what the first part of a quoted one means, and its size: 0, if it is wrong.
func readPart(s string, mark byte) (c byte, size int) {
	if s[0] != '\\' {
		if isPrintable(s[0]) {
			return s[0], 1
		}
		return 0, 0
	}
	if len(s) == 1 {
		return 0, 0
	}
	switch s[1] {
	case mark, '\\':
		return s[1], 2
	case 'n':
		return '\n', 2
	}
	return 0, 0
}

func readChar(text string, at int) (t api.Token, end int, ok bool) {
	c, size := readCharByte(text[at+1:])
	if size == 0 {
		return api.Token{}, 0, false
	}
	// A slice of one byte, not string(c): that would encode c as a rune.
	return api.Token{Kind: "char", Text: string([]byte{c}), At: at}, at + 1 + size, true
}

// readCharByte returns the byte that stands behind an `&`, and the size of its source.
func readCharByte(s string) (c byte, size int) {
	switch {
	case s == "":
		return 0, 0
	case s[0] != '\\':
		if s[0] == ' ' || !isPrintable(s[0]) {
			return 0, 0
		}
		return s[0], 1
	case len(s) == 1:
		return 0, 0
	}
	switch s[1] {
	case 'n':
		return '\n', 2
	case 's':
		return ' ', 2
	case '\\':
		return '\\', 2
	}
	return 0, 0
}

func readSign(text string, at int) (t api.Token, end int, ok bool) {
	for size := longestSign; size > 0; size-- {
		if at+size <= len(text) && isSign(text[at:at+size]) {
			return api.Token{Kind: "sign", Text: text[at : at+size], At: at}, at + size, true
		}
	}
	return api.Token{}, 0, false
}
