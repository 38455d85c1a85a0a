package domain_test

import (
	"fmt"
	"math"
	"slices"
	"strings"
	"testing"

	"manystrand/api"
	"manystrand/domain"
)

// dom reads ranges as `3` or `3#7` with spaces between, whether they are a domain or not.
func dom(text string) [][2]int {
	var d [][2]int
	for _, part := range strings.Fields(text) {
		var low, high int
		if n, _ := fmt.Sscanf(part, "%d#%d", &low, &high); n == 1 {
			high = low
		}
		d = append(d, [2]int{low, high})
	}
	return d
}

// doms reads domains, one or more, with semicolons between.
func doms(text string) (l [][][2]int) {
	for part := range strings.SplitSeq(text, ";") {
		l = append(l, dom(part))
	}
	return l
}

// notDomains are ranges that are no domain.
func notDomains() map[string][][2]int {
	return map[string][][2]int{
		"below 0":         {{-1, 3}},
		"too great":       {{5, api.MaxValue + 1}},
		"all too great":   {{api.MaxValue + 1, api.MaxValue + 1}},
		"backward":        {{4, 3}},
		"descending":      {{5, 6}, {1, 2}},
		"over each other": {{1, 5}, {3, 9}},
		"twice":           {{1, 2}, {1, 2}},
		"without a gap":   {{1, 3}, {4, 5}},
		"far too great":   {{0, 1}, {3, math.MaxInt}},
		"far below 0":     {{math.MinInt, 1}},
		"late":            {{1, 2}, {4, 4}, {6, 5}},
	}
}

func TestValid(t *testing.T) {
	for _, text := range []string{"", "0", "1000", "0#1000", "0 2 4", "0#1 3#4 6", "998 1000", "0#998 1000"} {
		if !domain.Valid(dom(text)) {
			t.Errorf("Terms: %q is no domain", text)
		}
	}
	for name, d := range notDomains() {
		if domain.Valid(d) {
			t.Errorf("Terms: %v (%s) is a domain", d, name)
		}
	}
	everyOther := make([][2]int, 501)
	for i := range everyOther {
		everyOther[i] = [2]int{2 * i, 2 * i}
	}
	if !domain.Valid(everyOther) || domain.Valid(append(everyOther, [2]int{1002, 1002})) {
		t.Error("Terms: as many ranges as there may be, or one more")
	}
}

func TestOf(t *testing.T) {
	for _, c := range []struct {
		l    []int
		want string
	}{
		{nil, ""},
		{[]int{3}, "3"},
		{[]int{3, 1, 2}, "1#3"},
		{[]int{0, 1000, 5, 5, 4, 5}, "0 4#5 1000"},
		{[]int{64, 63, 128, 127, 65}, "63#65 127#128"},
		{[]int{9, 7, 5}, "5 7 9"},
	} {
		given := slices.Clone(c.l)
		d, err := domain.Of(c.l)
		if err != api.OK || !slices.Equal(d, dom(c.want)) {
			t.Errorf("P6.1: Of(%v): %v, %d", c.l, d, err)
		}
		if !slices.Equal(c.l, given) {
			t.Errorf("R4: Of changed %v to %v", given, c.l)
		}
	}
	for _, l := range [][]int{{-1}, {1001}, {1, 2, 1001}, {5, -1, 5}, {math.MinInt}, {math.MaxInt, 3}} {
		if d, err := domain.Of(l); err != api.ErrArg || len(d) > 0 {
			t.Errorf("P6.1: Of(%v): %v, %d", l, d, err)
		}
	}
}

func TestValuesHasSize(t *testing.T) {
	for _, c := range []struct {
		text   string
		values []int
	}{
		{"", nil},
		{"0", []int{0}},
		{"1#3 5 1000", []int{1, 2, 3, 5, 1000}},
		{"62#65 127#128", []int{62, 63, 64, 65, 127, 128}},
	} {
		d := dom(c.text)
		if l := domain.Values(d); !slices.Equal(l, c.values) {
			t.Errorf("P6.1: Values(%s): %v", c.text, l)
		}
		if n := domain.Size(d); n != len(c.values) {
			t.Errorf("P6.1: Size(%s): %d", c.text, n)
		}
		for v := -2; v < 1005; v++ {
			if domain.Has(d, v) != slices.Contains(c.values, v) {
				t.Errorf("P6.1: Has(%s, %d): %t", c.text, v, domain.Has(d, v))
			}
		}
	}
	if n := domain.Size(dom("0#1000")); n != 1001 || len(domain.Values(dom("0#1000"))) != n {
		t.Errorf("P6.1: the whole domain has %d values", n)
	}
	if d := dom("0#1000"); domain.Has(d, math.MaxInt) || domain.Has(d, math.MinInt) {
		t.Error("P6.1: Has of numbers that no domain has")
	}
	for name, d := range notDomains() {
		if l := domain.Values(d); len(l) > 0 {
			t.Errorf("P6.1: Values of what is no domain (%s): %v", name, l)
		}
		for _, r := range d {
			if domain.Has(d, r[0]) || domain.Has(d, r[1]) {
				t.Errorf("P6.1: Has of what is no domain (%s)", name)
			}
		}
		if n := domain.Size(d); n != 0 {
			t.Errorf("P6.1: Size of what is no domain (%s): %d", name, n)
		}
	}
}

func TestMeetJoinMinus(t *testing.T) {
	for _, c := range []struct{ a, b, meet, join, minus string }{
		{"", "", "", "", ""},
		{"1#5", "", "", "1#5", "1#5"},
		{"", "1#5", "", "1#5", ""},
		{"1#5", "3#9", "3#5", "1#9", "1#2"},
		{"1#5", "6#9", "", "1#9", "1#5"},
		{"1#3 7#9", "4 6", "", "1#4 6#9", "1#3 7#9"},
		{"1#3 5#9", "4", "", "1#9", "1#3 5#9"},
		{"0#1000", "500", "500", "0#1000", "0#499 501#1000"},
		{"2 4 6", "1#5", "2 4", "1#6", "6"},
		{"7", "7", "7", "7", ""},
	} {
		for _, f := range []struct {
			name string
			call func(a, b [][2]int) ([][2]int, api.Errno)
			want string
		}{{"Meet", domain.Meet, c.meet}, {"Join", domain.Join, c.join}, {"Minus", domain.Minus, c.minus}} {
			if d, err := f.call(dom(c.a), dom(c.b)); err != api.OK || !slices.Equal(d, dom(f.want)) {
				t.Errorf("P6.1: %s(%s, %s): %v, %d", f.name, c.a, c.b, d, err)
			}
			for name, bad := range notDomains() {
				if d, err := f.call(dom(c.a), bad); err != api.ErrArg || len(d) > 0 {
					t.Errorf("P6.1: %s(%s, %s): %v, %d", f.name, c.a, name, d, err)
				}
				if d, err := f.call(bad, dom(c.b)); err != api.ErrArg || len(d) > 0 {
					t.Errorf("P6.1: %s(%s, %s): %v, %d", f.name, name, c.b, d, err)
				}
			}
		}
	}
}

func TestResultsAreNew(t *testing.T) {
	d := dom("1#3 7")
	for name, f := range map[string]func(a, b [][2]int) ([][2]int, api.Errno){"Meet": domain.Meet, "Join": domain.Join, "Minus": domain.Minus} {
		result, _ := f(d, d)
		for i := range result {
			result[i] = [2]int{9, 9}
		}
		result, _ = f(d, nil)
		for i := range result {
			result[i] = [2]int{9, 9}
		}
		if !slices.Equal(d, dom("1#3 7")) {
			t.Errorf("R4: %s shares memory with its argument", name)
		}
	}
}

func TestText(t *testing.T) {
	for _, text := range []string{"-", "0", "3", "3#7", "3#4", "0 2", "0#1000", "1 3#7 9#10 1000", "0#1 3"} {
		d := dom(text)
		if text == "-" {
			d = nil
		}
		if s, err := domain.Text(d); err != api.OK || s != text {
			t.Errorf("P6.1: Text(%v): %q, %d", d, s, err)
		}
		if p, err := domain.Parse(text); err != api.OK || !slices.Equal(p, d) {
			t.Errorf("P6.1: Parse(%q): %v, %d", text, p, err)
		}
	}
	if s, err := domain.Text([][2]int{}); s != "-" || err != api.OK {
		t.Errorf("P6.1: Text of an empty list: %q, %d", s, err)
	}
	for name, d := range notDomains() {
		if s, err := domain.Text(d); err != api.ErrArg || s != "" {
			t.Errorf("P6.1: Text of what is no domain (%s): %q, %d", name, s, err)
		}
	}
}

func TestParseRefuses(t *testing.T) {
	for _, s := range []string{
		"", " ", "--", "- ", " -", "-1", "- 1", "1 -", "1#", "#1", "#", "1##2", "1#2#3", "1#1", "2#1", "1 2", "1 1", "2 1",
		"1#3 4", "1#3 4#5", "1#3 3", "1#5 2", "1  3", " 1", "1 ", "1\t3", "1\n", "01", "1#03", "00", "+1", "1#+3", "~1", "-0",
		"1001", "0#1001", "1000 1002", "99999999999999999999", "1#99999999999999999999", "a", "1,3", "1 #3", "1# 3", "1_0",
		"0x1", "1.0", "1#3 5#", "\x00", "é", "１",
	} {
		if d, err := domain.Parse(s); err != api.ErrForm || len(d) > 0 {
			t.Errorf("P6.1: Parse(%q): %v, %d", s, d, err)
		}
	}
	for _, s := range []string{strings.Repeat("1", 100000), strings.Repeat("1 ", 100000), strings.Repeat("0", 100000)} {
		if d, err := domain.Parse(s); err != api.ErrForm || len(d) > 0 {
			t.Errorf("P6.1: Parse of a long text: %v, %d", d, err)
		}
	}
}

// TestParseAllShort holds Parse against Text of all domains of a few numbers.
func TestParseAllShort(t *testing.T) {
	texts := map[string]bool{}
	for set := range 1 << 9 {
		var l []int
		for i := range 9 {
			if set>>i&1 == 1 {
				l = append(l, i)
			}
		}
		d, _ := domain.Of(l)
		s, err := domain.Text(d)
		if back, e := domain.Parse(s); err != api.OK || e != api.OK || !slices.Equal(back, d) || !slices.Equal(domain.Values(back), l) {
			t.Errorf("P6.1: %v: %q, %d, back %v, %d", l, s, err, back, e)
		}
		texts[s] = true
	}
	if len(texts) != 1<<9 {
		t.Errorf("P6.1: %d texts", len(texts))
	}
	const letters = "0128# -"
	var try func(s string, more int)
	try = func(s string, more int) {
		d, err := domain.Parse(s)
		if isText := texts[s]; isText != (err == api.OK) && (isText || domain.Size(d) == 0 || d[len(d)-1][1] < 9) {
			t.Errorf("P6.1: Parse(%q): %v, %d", s, d, err)
		}
		if more > 0 {
			for i := range len(letters) {
				try(s+letters[i:i+1], more-1)
			}
		}
	}
	try("", 6)
}
