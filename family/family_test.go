package family_test

import (
	"fmt"
	"math"
	"math/big"
	"slices"
	"strings"
	"testing"

	"manystrand/api"
	"manystrand/family"
)

// fam reads a family, valid or not: `1 2 .. 1-5 # 2 .. 3`, or without sizes, which are then as wide as may be.
func fam(text string) api.Family {
	sets, sizes, ok := strings.Cut(text, "#")
	if !ok {
		sizes = fmt.Sprint(0, "..", api.MaxElem+1)
	}
	lo, hi, _ := strings.Cut(sets, "..")
	least, most, _ := strings.Cut(sizes, "..")
	return api.Family{Lo: numbers(lo), Hi: numbers(hi), Min: numbers(least)[0], Max: numbers(most)[0]}
}

// fams reads families, one or more, with semicolons between.
func fams(text string) (l []api.Family) {
	for part := range strings.SplitSeq(text, ";") {
		l = append(l, fam(part))
	}
	return l
}

// numbers reads numbers, also `3-7`.
func numbers(text string) (l []int) {
	for word := range strings.FieldsSeq(text) {
		var low, high int
		if n, _ := fmt.Sscanf(word, "%d-%d", &low, &high); n == 1 {
			high = low
		}
		for more := range high - low + 1 {
			l = append(l, low+more)
		}
	}
	return l
}

func same(f, g api.Family) bool {
	return slices.Equal(f.Lo, g.Lo) && slices.Equal(f.Hi, g.Hi) && f.Min == g.Min && f.Max == g.Max
}

func sameList(a, b []api.Family) bool { return slices.EqualFunc(a, b, same) }

func isZero(f api.Family) bool { return same(f, api.Family{}) }

func upTo(n int) (l []int) {
	for i := range n {
		l = append(l, i)
	}
	return l
}

// whole returns the family of all sets.
func whole() api.Family { return api.Family{Hi: upTo(api.MaxElem + 1), Max: api.MaxElem + 1} }

// notFamilies are such that are not valid.
func notFamilies() map[string]api.Family {
	return map[string]api.Family{
		"Lo descends":       fam("2 1 .. 1 2"),
		"Lo has one twice":  fam("1 1 .. 1 2"),
		"Lo below 0":        fam("-1 .. 1 2"),
		"Lo too great":      fam("64 .. 1 2"),
		"Lo far below 0":    {Lo: []int{math.MinInt}, Hi: []int{1}, Max: 1},
		"Hi descends":       fam("1 .. 1 3 2"),
		"Hi has one twice":  fam("1 .. 1 2 2"),
		"Hi below 0":        fam("1 .. -1 1"),
		"Hi too great":      fam("1 .. 1 2 64"),
		"Hi far too great":  {Hi: []int{1, math.MaxInt}, Max: 1},
		"Hi of too many":    {Hi: upTo(api.MaxElem + 2), Max: 1},
		"Min below 0":       fam(" .. 1 # -1 .. 1"),
		"Min too great":     fam(" .. 1 # 65 .. 64"),
		"Max below 0":       fam(" .. 1 # 0 .. -1"),
		"Max too great":     fam(" .. 1 # 0 .. 65"),
		"Min far below 0":   {Hi: []int{1}, Min: math.MinInt, Max: 1},
		"Max far too great": {Hi: []int{1}, Max: math.MaxInt},
		"nothing is valid":  fam("-5 -6 .. 99 98 # -1 .. 99"),
	}
}

func TestValid(t *testing.T) {
	for _, text := range []string{
		" .. ", " .. # 0 .. 0", "1 2 .. 1 2 5 # 2 .. 3", " .. 0-63", "0-63 .. 0-63", "0 63 .. 0 63 # 64 .. 64",
		// Valid, but not normal, or failed.
		"1 2 .. 1 2", "1 .. 2", "1 .. ", " .. 1 # 5 .. 3", "1 2 .. 1 2 # 64 .. 0", "0-63 .. # 0 .. 64",
	} {
		if !family.Valid(fam(text)) {
			t.Errorf("Terms: %s is not valid", text)
		}
	}
	if !family.Valid(api.Family{}) {
		t.Error("Terms: the empty set is not valid")
	}
	for name, f := range notFamilies() {
		if family.Valid(f) {
			t.Errorf("Terms: %v (%s) is valid", f, name)
		}
	}
}

func TestNormal(t *testing.T) {
	for _, c := range []struct{ given, want string }{
		{" .. ", " .. # 0 .. 0"},
		{" .. 1-3", " .. 1-3 # 0 .. 3"},
		{" .. 1-3 # 1 .. 2", " .. 1-3 # 1 .. 2"},
		{"1 2 .. 1 2 5 # 2 .. 3", "1 2 .. 1 2 5 # 2 .. 3"},
		{"1 2 .. 1 2 5 # 0 .. 9", "1 2 .. 1 2 5 # 2 .. 3"},
		{"1 2 .. 1 2 5", "1 2 .. 1 2 5 # 2 .. 3"},
		// As many as may be: all of Hi.
		{" .. 1-3 # 3 .. 9", "1-3 .. 1-3 # 3 .. 3"},
		{"1 .. 1 2 5 # 3 .. 3", "1 2 5 .. 1 2 5 # 3 .. 3"},
		{" .. 0-63 # 64 .. 64", "0-63 .. 0-63 # 64 .. 64"},
		// As many as must be: none beside Lo.
		{"1 .. 1-3 # 0 .. 1", "1 .. 1 # 1 .. 1"},
		{" .. 1-3 # 0 .. 0", " .. # 0 .. 0"},
		{" .. 0-63 # 0 .. 0", " .. # 0 .. 0"},
		{"4 9 .. 4 9", "4 9 .. 4 9 # 2 .. 2"},
		{" .. 0-63", " .. 0-63 # 0 .. 64"},
		{"0 63 .. 0-63 # 3 .. 63", "0 63 .. 0-63 # 3 .. 63"},
		// Failed.
		{"1 .. ", ""},
		{"1 .. 2", ""},
		{"1 2 .. 1 3", ""},
		{" .. 1-3 # 4 .. 9", ""},
		{" .. 1-3 # 2 .. 1", ""},
		{"1 2 .. 1-3 # 0 .. 1", ""},
		{"1 .. 1 # 0 .. 0", ""},
		{"1 .. 1 # 2 .. 2", ""},
		{" .. # 1 .. 1", ""},
		{"0-63 .. 0-62", ""},
	} {
		f := fam(c.given)
		got, err := family.Normal(f)
		if c.want == "" {
			if err != api.ErrFail || !isZero(got) {
				t.Errorf("P7.1: Normal(%s): %v, %d", c.given, got, err)
			}
		} else if err != api.OK || !same(got, fam(c.want)) {
			t.Errorf("P7.1: Normal(%s): %v, %d; not %s", c.given, got, err, c.want)
		}
		if !same(f, fam(c.given)) {
			t.Errorf("R4: Normal(%s) changed its argument", c.given)
		}
	}
	for name, f := range notFamilies() {
		if got, err := family.Normal(f); err != api.ErrArg || !isZero(got) {
			t.Errorf("P7.1: Normal of what is not valid (%s): %v, %d", name, got, err)
		}
	}
}

func TestHas(t *testing.T) {
	for _, c := range []struct {
		family, set string
		want        bool
	}{
		{"1 2 .. 1 2 5 # 2 .. 3", "1 2", true},
		{"1 2 .. 1 2 5 # 2 .. 3", "1 2 5", true},
		{"1 2 .. 1 2 5 # 2 .. 3", "1 5", false},
		{"1 2 .. 1 2 5 # 2 .. 3", "1 2 6", false},
		{"1 2 .. 1 2 5 # 3 .. 3", "1 2", false},
		{"1 2 .. 1 2 5 # 0 .. 2", "1 2 5", false},
		{"1 2 .. 1 2 5 # 0 .. 2", "1 2", true},
		{" .. ", "", true},
		{" .. 1-3", "", true},
		{" .. 1-3 # 1 .. 3", "", false},
		{" .. 0-63", "0-63", true},
		{" .. 0-63 # 0 .. 63", "0-63", false},
		{" .. 0-63", "0 31 32 63", true},
		// A set ascends, and has elements alone.
		{" .. 1-3", "2 1", false},
		{" .. 1-3", "1 1", false},
		{" .. 0-63", "64", false},
		{" .. 0-63", "-1", false},
		{" .. 0-63", "-1 3", false},
		{" .. 0-63", "3 64", false},
		{" .. 0-63", "0-64", false},
		// Failed families stand for none.
		{"1 .. 2", "1", false},
		{"1 .. 2", "2", false},
		{"1 .. 2", "1 2", false},
		{" .. 1-3 # 2 .. 1", "1 2", false},
	} {
		f, s := fam(c.family), numbers(c.set)
		if family.Has(f, s) != c.want {
			t.Errorf("P7.1: Has(%s, %s): %t", c.family, c.set, !c.want)
		}
		if !same(f, fam(c.family)) || !slices.Equal(s, numbers(c.set)) {
			t.Errorf("R4: Has(%s, %s) changed its arguments", c.family, c.set)
		}
	}
	for _, s := range [][]int{{math.MaxInt}, {math.MinInt}, {math.MinInt, math.MaxInt}, upTo(100000), make([]int, 100000)} {
		if family.Has(whole(), s) {
			t.Errorf("P7.1: Has of %d numbers that are no set of elements", len(s))
		}
	}
	for name, f := range notFamilies() {
		for _, s := range [][]int{nil, f.Lo, f.Hi, {1}, {1, 2}} {
			if family.Has(f, s) {
				t.Errorf("P7.1: Has of what is not valid (%s): %v", name, s)
			}
		}
	}
}

func TestCount(t *testing.T) {
	for _, c := range []struct {
		family string
		want   int
	}{
		{" .. ", 1},
		{"1 2 .. 1 2", 1},
		{"1 2 .. 1 2 5 # 2 .. 3", 2},
		{" .. 1-3", 8},
		{" .. 1-3 # 1 .. 2", 6},
		{" .. 1-3 # 2 .. 2", 3},
		{"1 .. 1-5 # 2 .. 3", 10},
		// Failed.
		{"1 .. 2", 0},
		{" .. 1-3 # 2 .. 1", 0},
		{" .. 1-3 # 4 .. 9", 0},
		{"1 2 .. 1-3 # 0 .. 1", 0},
		// As many as may be told.
		{" .. 0-61", 1 << 62},
		{"62 63 .. 0-63", 1 << 62},
		{" .. 0-62 # 0 .. 31", 1 << 62},
		{" .. 0-62 # 32 .. 64", 1 << 62},
		{"63 .. 0-63 # 0 .. 32", 1 << 62},
		{" .. 0-60", 1 << 61},
		{" .. 0-63 # 32 .. 32", 1832624140942590534},
		{" .. 0-63 # 63 .. 64", 65},
		{" .. 0-63 # 0 .. 0", 1},
		{"0-63 .. 0-63", 1},
	} {
		if n, err := family.Count(fam(c.family)); n != c.want || err != api.OK {
			t.Errorf("P7.1: Count(%s): %d, %d; not %d", c.family, n, err, c.want)
		}
	}
	for _, text := range []string{
		" .. 0-63", " .. 0-62", "0 .. 0-63", " .. 0-62 # 0 .. 32", " .. 0-62 # 31 .. 64", " .. 0-63 # 0 .. 63", " .. 0-63 # 31 .. 33",
	} {
		if n, err := family.Count(fam(text)); n != 0 || err != api.ErrLimit {
			t.Errorf("P7.1: Count(%s): %d, %d", text, n, err)
		}
	}
	for name, f := range notFamilies() {
		if n, err := family.Count(f); n != 0 || err != api.ErrArg {
			t.Errorf("P7.1: Count of what is not valid (%s): %d, %d", name, n, err)
		}
	}
}

// TestCountBySizes holds Count against sums of exact numbers, for all sizes.
func TestCountBySizes(t *testing.T) {
	limit := new(big.Int).Lsh(big.NewInt(1), 62)
	for free := 0; free <= api.MaxElem+1; free += 1 + free%3 {
		f := api.Family{Hi: upTo(api.MaxElem + 1)}
		f.Lo = f.Hi[free:]
		known := len(f.Lo)
		for f.Min = 0; f.Min <= api.MaxElem+1; f.Min++ {
			for f.Max = 0; f.Max <= api.MaxElem+1; f.Max++ {
				want := new(big.Int)
				for size := max(f.Min-known, 0); size <= f.Max-known; size++ {
					want.Add(want, new(big.Int).Binomial(int64(free), int64(size)))
				}
				n, err := family.Count(f)
				if want.Cmp(limit) > 0 && (err != api.ErrLimit || n != 0) || want.Cmp(limit) <= 0 && (err != api.OK || want.Cmp(big.NewInt(int64(n))) != 0) {
					t.Fatalf("P7.1: Count(%v): %d, %d; not %v", f, n, err, want)
				}
			}
		}
	}
}

func TestMeet(t *testing.T) {
	for _, c := range []struct{ f, g, want string }{
		{" .. 1-5", " .. 3-9", " .. 3-5 # 0 .. 3"},
		{"1 .. 1-5", "2 .. 1-5", "1 2 .. 1-5 # 2 .. 5"},
		{" .. 1-5 # 1 .. 4", " .. 1-5 # 2 .. 3", " .. 1-5 # 2 .. 3"},
		{" .. 1-5 # 0 .. 2", " .. 1-5 # 2 .. 5", " .. 1-5 # 2 .. 2"},
		{" .. 1-5 # 3 .. 5", " .. 3-9", "3-5 .. 3-5 # 3 .. 3"},
		{"1 .. 1-5 # 0 .. 2", "2 .. 1-9", "1 2 .. 1 2 # 2 .. 2"},
		{" .. 0-63", "7 .. 7", "7 .. 7 # 1 .. 1"},
		{" .. ", " .. 0-63", " .. # 0 .. 0"},
		{" .. 1 2", " .. 3 4", " .. # 0 .. 0"},
		// Failed: either of them, or both together.
		{"1 .. 1", "2 .. 2", ""},
		{"1 .. 1-5", " .. 2-5", ""},
		{" .. 1-5 # 0 .. 2", " .. 1-5 # 3 .. 5", ""},
		{" .. 1-5 # 3 .. 5", " .. 4-9", ""},
		{"1 .. 1-5 # 0 .. 1", "2 .. 1-9", ""},
		{"1 .. 2", " .. 0-63", ""},
		{" .. 1-5 # 4 .. 2", " .. 1-5", ""},
	} {
		for _, pair := range [][2]string{{c.f, c.g}, {c.g, c.f}} {
			f, g := fam(pair[0]), fam(pair[1])
			got, err := family.Meet(f, g)
			if c.want == "" {
				if err != api.ErrFail || !isZero(got) {
					t.Errorf("P7.1: Meet(%s, %s): %v, %d", pair[0], pair[1], got, err)
				}
			} else if err != api.OK || !same(got, fam(c.want)) {
				t.Errorf("P7.1: Meet(%s, %s): %v, %d; not %s", pair[0], pair[1], got, err, c.want)
			}
			if !same(f, fam(pair[0])) || !same(g, fam(pair[1])) {
				t.Errorf("R4: Meet(%s, %s) changed its arguments", pair[0], pair[1])
			}
		}
	}
	for name, bad := range notFamilies() {
		for _, f := range []api.Family{whole(), fam("1 .. 2"), bad} {
			for _, pair := range [][2]api.Family{{f, bad}, {bad, f}} {
				if got, err := family.Meet(pair[0], pair[1]); err != api.ErrArg || !isZero(got) {
					t.Errorf("P7.1: Meet with what is not valid (%s): %v, %d", name, got, err)
				}
			}
		}
	}
}

func TestFixed(t *testing.T) {
	for text, want := range map[string]bool{
		" .. ":                  true,
		"1 2 .. 1 2 # 2 .. 2":   true,
		"0-63 .. 0-63":          true,
		"1 2 .. 1 2 5 # 2 .. 3": false,
		" .. 1":                 false,
		"1 .. ":                 false,
		"1 .. 2":                false,
		"1 .. 1 3":              false,
		" .. 1 # 1 .. 1":        false,
		"1 2 .. 1 2":            true,
		"2 1 .. 2 1":            false,
		"64 .. 64":              false,
	} {
		if family.Fixed(fam(text)) != want {
			t.Errorf("Terms: Fixed(%s): %t", text, !want)
		}
	}
}

func TestResultsAreNew(t *testing.T) {
	const text = "1 2 .. 1 2 # 2 .. 2"
	f := fam(text)
	for name, call := range map[string]func() api.Family{
		"Normal": func() api.Family { g, _ := family.Normal(f); return g },
		"Meet":   func() api.Family { g, _ := family.Meet(f, f); return g },
		"Parse":  func() api.Family { g, _ := family.Parse("{1 2} .. {1 2} # 2 .. 2"); return g },
		"Fix":    func() api.Family { l, _ := family.Fix(nil, []api.Family{f, f}); return l[0] },
	} {
		g := call()
		g.Lo[0], g.Hi[1] = -7, -6
		g.Lo, g.Hi = append(g.Lo, -5), append(g.Hi, -4)
		if !slices.Equal(g.Lo, []int{-7, 2, -5}) || !slices.Equal(g.Hi, []int{1, -6, -4}) {
			t.Errorf("R4: Lo and Hi of %s share memory: %v", name, g)
		}
		if !same(f, fam(text)) || !same(call(), f) {
			t.Errorf("R4: %s shares memory with its argument, or keeps it", name)
		}
	}
}

// texts are those of normal families.
func texts() map[string]string {
	return map[string]string{
		"{1 2} .. {1 2 5} # 2 .. 3":          "1 2 .. 1 2 5 # 2 .. 3",
		"{} .. {} # 0 .. 0":                  " .. # 0 .. 0",
		"{0} .. {0} # 1 .. 1":                "0 .. 0 # 1 .. 1",
		"{} .. {7} # 0 .. 1":                 " .. 7 # 0 .. 1",
		"{} .. {0 9 63} # 1 .. 2":            " .. 0 9 63 # 1 .. 2",
		"{9} .. {0 9 10 63} # 2 .. 4":        "9 .. 0 9 10 63 # 2 .. 4",
		"{10 63} .. {10 11 63} # 2 .. 3":     "10 63 .. 10 11 63 # 2 .. 3",
		"{1 2 3} .. {1 2 3 4 5} # 4 .. 4":    "1-3 .. 1-5 # 4 .. 4",
		"{} .. {10 20 30 40 50 60} # 0 .. 6": " .. 10 20 30 40 50 60 # 0 .. 6",
	}
}

func TestText(t *testing.T) {
	for text, name := range texts() {
		f := fam(name)
		if s, err := family.Text(f); err != api.OK || s != text {
			t.Errorf("P7.1: Text(%s): %q, %d", name, s, err)
		}
		if g, err := family.Parse(text); err != api.OK || !same(g, f) {
			t.Errorf("P7.1: Parse(%q): %v, %d", text, g, err)
		}
	}
	for _, f := range fams("1 2 .. 1 2;1 .. 2;1 .. ; .. 1-3 # 0 .. 4; .. 1-3 # 3 .. 3; .. 1-3 # 0 .. 0;1 .. 1-3 # 0 .. 3;1 .. 1-3 # 1 .. 1; .. 1-3 # 2 .. 1") {
		if s, err := family.Text(f); err != api.ErrArg || s != "" {
			t.Errorf("P7.1: Text of what is not normal, %v: %q, %d", f, s, err)
		}
	}
	for name, f := range notFamilies() {
		if s, err := family.Text(f); err != api.ErrArg || s != "" {
			t.Errorf("P7.1: Text of what is not valid (%s): %q, %d", name, s, err)
		}
	}
	if s, err := family.Text(whole()); err != api.OK || !strings.HasPrefix(s, "{} .. {0 1 2 ") || !strings.HasSuffix(s, " 62 63} # 0 .. 64") {
		t.Errorf("P7.1: Text of all sets: %q, %d", s, err)
	}
}

func TestParseRefuses(t *testing.T) {
	for _, s := range []string{
		"", " ", "{}", "{} .. {}", "{} .. {} #", "{} .. {} # 0", "{} .. {} # 0 ..", "{} .. {} # 0 .. ", "{} .. {} #  .. 0", "# 0 .. 0",
		" {} .. {} # 0 .. 0", "{} .. {} # 0 .. 0 ", "{} .. {} # 0 .. 0\n", "{}  .. {} # 0 .. 0", "{} ..  {} # 0 .. 0", "{} .. {}  # 0 .. 0",
		"{}..{} # 0 .. 0", "{} .. {}#0 .. 0", "{} .. {} # 0..0", "{} .. {} # 0 ... 0", "{} . {} # 0 .. 0", "{ } .. {} # 0 .. 0",
		" .. {} # 0 .. 0", "{} ..  # 0 .. 0", "{ .. {} # 0 .. 0", "{} .. } # 0 .. 0", "{{}} .. {} # 0 .. 0", "() .. () # 0 .. 0",
		"{} .. {} # 0 .. 0 # 0 .. 0", "{} .. {} .. {} # 0 .. 0", "{} .. {} # 0 .. 0 .. 0", "{} # 0 .. 0", "0 .. 0 # {} .. {}",
		"{1 2 } .. {1 2 5} # 2 .. 3", "{ 1 2} .. {1 2 5} # 2 .. 3", "{1  2} .. {1 2 5} # 2 .. 3", "{1,2} .. {1 2 5} # 2 .. 3",
		"{1\t2} .. {1 2 5} # 2 .. 3", "{1 2} .. {1 2 5} # 2\t.. 3", "1 2 .. 1 2 5 # 2 .. 3", "{12} .. {1 2 5} # 2 .. 3",
		"{01 2} .. {1 2 5} # 2 .. 3", "{1 2} .. {1 2 05} # 2 .. 3", "{1 2} .. {1 2 5} # 02 .. 3", "{1 2} .. {1 2 5} # 2 .. 03",
		"{+1 2} .. {1 2 5} # 2 .. 3", "{1 2} .. {1 2 5} # +2 .. 3", "{-0} .. {0} # 1 .. 1", "{~1 2} .. {~1 2 5} # 2 .. 3",
		"{1_0} .. {1_0} # 1 .. 1", "{0x1} .. {0x1} # 1 .. 1", "{a} .. {a} # 1 .. 1", "{１} .. {１} # 1 .. 1", "{1 2} .. {1 2 5} # 2 .. x",
		// Not valid.
		"{2 1} .. {1 2 5} # 2 .. 3", "{1 2} .. {1 5 2} # 2 .. 3", "{1 1} .. {1} # 1 .. 1", "{-1} .. {-1} # 1 .. 1", "{64} .. {64} # 1 .. 1",
		"{} .. {64} # 0 .. 1", "{} .. {1} # -1 .. 1", "{} .. {1} # 0 .. 65", "{99999999999999999999} .. {1} # 1 .. 1",
		"{} .. {1} # 0 .. 99999999999999999999", "{} .. {1} # 0 .. -1",
		// Not normal.
		"{1 2} .. {1 2} # 0 .. 64", "{1} .. {2} # 1 .. 1", "{1} .. {} # 1 .. 1", "{} .. {1 2 3} # 0 .. 4", "{} .. {1 2 3} # 3 .. 3",
		"{} .. {1 2 3} # 0 .. 0", "{1} .. {1 2 3} # 0 .. 3", "{1} .. {1 2 3} # 1 .. 1", "{} .. {1 2 3} # 2 .. 1", "{1 2} .. {1 2 5} # 2 .. 2",
		"{1 2} .. {1 2 5} # 3 .. 3", "{} .. {} # 0 .. 1", "{} .. {} # 1 .. 0",
		strings.Repeat("1", 100000), strings.Repeat("{", 100000), strings.Repeat("1 ", 100000), strings.Repeat(" .. ", 100000),
		"{" + strings.Repeat("1 ", 100000) + "} .. {1} # 1 .. 1", "{} .. {} # 0 .. " + strings.Repeat("0", 100000), "\x00", "\xff", "é",
	} {
		if f, err := family.Parse(s); err != api.ErrForm || !isZero(f) {
			t.Errorf("P7.1: Parse(%.80q): %v, %d", s, f, err)
		}
	}
	// Each text that lacks a byte, or has another one, is another text or none.
	for text, name := range texts() {
		for i := range len(text) {
			for _, put := range []string{"", " ", "0", "1", "2", "{", "}", ".", "#", text[i:i+1] + text[i:i+1]} {
				s := text[:i] + put + text[i+1:]
				f, err := family.Parse(s)
				if again, e := family.Text(f); err == api.OK && (e != api.OK || again != s) || err != api.OK && !isZero(f) {
					t.Errorf("P7.1: Parse(%q), made of %s: %v, %d; its text %q", s, name, f, err, again)
				}
			}
		}
	}
}
