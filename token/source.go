package token

import (
	"strings"
)

// enclose writes a text between two marks, with an escape only where a byte cannot stand for itself.
func enclose(s string, mark byte) string {
	var b strings.Builder
	b.WriteByte(mark)
	for i := range len(s) {
		switch s[i] {
		case mark, '\\':
			b.WriteByte('\\')
			b.WriteByte(s[i])
		case '\n':
			b.WriteString("\\n")
		default:
			b.WriteByte(s[i])
		}
	}
	b.WriteByte(mark)
	return b.String()
}

// charSource returns what stands behind the `&` of a char.
func charSource(c byte) string {
	switch c {
	case '\n':
		return "\\n"
	case ' ':
		return "\\s"
	case '\\':
		return "\\\\"
	}
	return string([]byte{c})
}
