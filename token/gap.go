package token

import (
	"strings"
)

// skipGap returns where the blanks and remarks from a place on end. A remark that does not end is
// left: no token begins as it does, so that its begin is the bad place.
func skipGap(text string, at int) int {
	for at < len(text) {
		size := gapSize(text[at:])
		if size == 0 {
			break
		}
		at += size
	}
	return at
}

// gapSize returns the size of the blank or the remark with which a text begins: 0, if none does.
func gapSize(s string) int {
	switch {
	case isBlank(s[0]):
		return 1
	case s[0] == '%':
		return lineSize(s)
	case strings.HasPrefix(s, "/*"):
		return nestedSize(s)
	}
	return 0
}

func lineSize(s string) int {
	size := strings.IndexByte(s, '\n')
	if size < 0 {
		return len(s)
	}
	return size + 1
}

// nestedSize returns the size of the nested remark with which a text begins: 0, if it does not end.
func nestedSize(s string) int {
	depth := 0
	for i := 0; i+1 < len(s); {
		switch s[i : i+2] {
		case "/*":
			depth++
			i += 2
		case "*/":
			depth--
			i += 2
		default:
			i++
		}
		if depth == 0 {
			return i
		}
	}
	return 0
}
