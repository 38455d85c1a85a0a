package domain

import (
	"strconv"
	"strings"

	"manystrand/api"
)

// noRanges is the text of the empty domain.
const noRanges = "-"

// Text returns a domain's ranges as `3` or `3#7`, with spaces between.
func Text(d [][2]int) (string, api.Errno) {
	if !Valid(d) {
		return "", api.ErrArg
	}
	if len(d) == 0 {
		return noRanges, api.OK
	}
	var b strings.Builder
	for i, r := range d {
		if i > 0 {
			b.WriteByte(' ')
		}
		b.WriteString(strconv.Itoa(r[0]))
		if r[1] > r[0] {
			b.WriteString("#" + strconv.Itoa(r[1]))
		}
	}
	return b.String(), api.OK
}

// Parse returns the domain that has a text.
func Parse(s string) ([][2]int, api.Errno) {
	if s == noRanges {
		return nil, api.OK
	}
	var d [][2]int
	next := 0 // the least number at which a range may begin
	for part := range strings.SplitSeq(s, " ") {
		r, ok := parseRange(part)
		if !ok || r[0] < next {
			return nil, api.ErrForm
		}
		d = append(d, r)
		next = r[1] + 2
	}
	return d, api.OK
}

// parseRange reads `3`, or `3#7` with the less number first.
func parseRange(s string) (r [2]int, ok bool) {
	first, second, isLong := strings.Cut(s, "#")
	low, ok := parseNumber(first)
	if !ok || !isLong {
		return [2]int{low, low}, ok
	}
	high, ok := parseNumber(second)
	return [2]int{low, high}, ok && low < high
}

// parseNumber reads a number of a domain as Text writes it.
func parseNumber(s string) (n int, ok bool) {
	n, err := strconv.Atoi(s)
	return n, err == nil && n >= 0 && n <= api.MaxValue && strconv.Itoa(n) == s
}
