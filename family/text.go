package family

import (
	"strconv"
	"strings"

	"manystrand/api"
)

// What stands between the sets and the sizes, and between the bounds of both.
const (
	sizesMark  = " # "
	boundsMark = " .. "
)

// Text returns a normal family as `{1 2} .. {1 2 5} # 2 .. 3`.
func Text(f api.Family) (string, api.Errno) {
	if !isNormal(f) {
		return "", api.ErrArg
	}
	sets := setText(f.Lo) + boundsMark + setText(f.Hi)
	return sets + sizesMark + strconv.Itoa(f.Min) + boundsMark + strconv.Itoa(f.Max), api.OK
}

func isNormal(f api.Family) bool {
	if !Valid(f) {
		return false
	}
	b := boundsOf(f)
	return b.normalize() && b == boundsOf(f)
}

func setText(l []int) string {
	words := make([]string, len(l))
	for i, n := range l {
		words[i] = strconv.Itoa(n)
	}
	return "{" + strings.Join(words, " ") + "}"
}

// Parse returns the normal family that has a text.
func Parse(s string) (api.Family, api.Errno) {
	f := read(s)
	// What is another text than that of the family that read makes of it is the text of none.
	if text, err := Text(f); err != api.OK || text != s {
		return api.Family{}, api.ErrForm
	}
	return f, api.OK
}

// read returns the family of its text, and some family, valid or not, of any other one.
func read(s string) api.Family {
	sets, sizes, _ := strings.Cut(s, sizesMark)
	lo, hi, _ := strings.Cut(sets, boundsMark)
	least, most, _ := strings.Cut(sizes, boundsMark)
	return api.Family{Lo: readSet(lo), Hi: readSet(hi), Min: readNumber(least), Max: readNumber(most)}
}

func readSet(s string) (l []int) {
	for _, word := range strings.Fields(strings.Trim(s, "{}")) {
		l = append(l, readNumber(word))
	}
	return l
}

// readNumber returns the number of its text, and some number of any other one.
func readNumber(s string) int {
	n, _ := strconv.Atoi(s)
	return n
}
