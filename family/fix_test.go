package family_test

import (
	"fmt"
	"math"
	"slices"
	"strings"
	"testing"
	"time"

	"manystrand/api"
	"manystrand/family"
)

// rel reads a relation: its Kind, its Vars, and behind an equals sign its N.
func rel(text string) api.Rel {
	var r api.Rel
	front, n, _ := strings.Cut(text, "=")
	fmt.Sscan(n, &r.N)
	r.Kind, front, _ = strings.Cut(strings.TrimSpace(front), " ")
	r.Vars = numbers(front)
	return r
}

func rels(text string) (l []api.Rel) {
	for part := range strings.SplitSeq(text, ";") {
		if strings.TrimSpace(part) != "" {
			l = append(l, rel(part))
		}
	}
	return l
}

func TestValidRel(t *testing.T) {
	for _, text := range []string{
		"part 0 1", "part 0 0", "apart 0 2", "apart 1 1", "union 0 1 2", "union 0 0 0", "meet 0 1 2", "meet 2 1 2", "minus 0 1 2", "minus 1 1 0",
		"has 0=3", "lacks 2=63", "size 1=2",
		// N is any number, looked at or not.
		"has 0=-1", "has 0=64", "lacks 0=-5", "lacks 0=1000000000", "size 0=-1", "size 0=65", "part 0 1=77", "union 0 1 2=-77",
	} {
		if !family.ValidRel(rel(text), 3) {
			t.Errorf("P7.2: %s is not valid", text)
		}
	}
	for _, text := range []string{
		// Kinds that there are not.
		"", "x 0", "Part 0 1", "parts 0 1", "join 0 1 2", "equal 0 1", "sum 0 1",
		// Other numbers of Vars.
		"part", "part 0", "part 0 1 2", "apart 0", "apart 0 1 2", "union 0 1", "union 0 1 2 0", "meet 0 1", "meet 0 1 2 1", "minus 0 1",
		"minus 0 1 2 2", "has=1", "has 0 1=1", "lacks=1", "lacks 0 1=1", "size=1", "size 0 1=1",
		// Vars out of range.
		"part 0 3", "part 3 0", "part -1 0", "apart 0 3", "apart -1 0", "union 0 1 3", "union 3 1 0", "union 0 -1 1", "meet 0 1 3", "meet 0 3 1",
		"minus 0 1 3", "minus -1 1 2", "has 3=1", "has -1=1", "lacks 3=1", "size 3=1", "size -1=1",
	} {
		if family.ValidRel(rel(text), 3) {
			t.Errorf("P7.2: %s is valid", text)
		}
	}
	for n, want := range map[int]bool{math.MinInt: false, -1: false, 0: false, 1: true, api.MaxPlaces: true, api.MaxPlaces + 1: false, math.MaxInt: false} {
		if family.ValidRel(rel("size 0=1"), n) != want {
			t.Errorf("P7.2: ValidRel with %d families: %t", n, !want)
		}
	}
	if !family.ValidRel(rel("part 0 39"), api.MaxPlaces) || family.ValidRel(rel("part 0 40"), api.MaxPlaces) {
		t.Error("P7.2: the last place, or one behind it")
	}
	for _, x := range []int{math.MinInt, math.MaxInt} {
		if family.ValidRel(api.Rel{Kind: "has", Vars: []int{x}}, 3) || !family.ValidRel(api.Rel{Kind: "has", Vars: []int{0}, N: x}, 3) {
			t.Errorf("P7.2: ValidRel with %d as a place, or as N", x)
		}
	}
	if family.ValidRel(api.Rel{Kind: "part", Vars: make([]int, 100000)}, 3) {
		t.Error("P7.2: ValidRel with very many Vars")
	}
}

// TestFixByOne has what follows from one relation, clause by clause of the chapter's table.
func TestFixByOne(t *testing.T) {
	for _, c := range []struct{ rel, fams, want string }{
		{"part 0 1", "1 .. 1-5; .. 1-5", "1 .. 1-5 # 1 .. 5;1 .. 1-5 # 1 .. 5"},
		{"part 0 1", " .. 1-5; .. 3-9", " .. 3-5; .. 3-9"},
		{"part 0 1", " .. 1-5; .. 1-5 # 0 .. 2", " .. 1-5 # 0 .. 2; .. 1-5 # 0 .. 2"},
		{"part 0 1", " .. 1-5 # 2 .. 4; .. 1-5", " .. 1-5 # 2 .. 4; .. 1-5 # 2 .. 5"},
		{"part 0 1", " .. 1-5 # 2 .. 4; .. 1-5 # 0 .. 1", ""},
		{"part 0 1", " .. 1-5 # 3 .. 5; .. 3-5", "3-5 .. 3-5;3-5 .. 3-5"},
		{"part 0 1", "1 .. 1-5; .. 2-5", ""},
		{"part 0 1", " .. 1-5;1 .. 1-5", " .. 1-5;1 .. 1-5"},
		{"part 0 0", "1 .. 1-5", "1 .. 1-5"},

		{"apart 0 1", "1 .. 1-5;2 .. 1-5", "1 .. 1 3-5;2 .. 2-5"},
		{"apart 0 1", " .. 1-5; .. 1-5", " .. 1-5; .. 1-5"},
		{"apart 0 1", "1 .. 1-5;1 .. 1-5", ""},
		{"apart 0 1", " .. 1-5 # 4 .. 5; .. 1-5 # 2 .. 5", " .. 1-5 # 4 .. 5; .. 1-5 # 2 .. 5"},
		{"apart 0 1", "1 .. 1-3; .. 1-2 # 1 .. 2", "1 .. 1 3;2 .. 2"},
		{"apart 0 0", " .. 1-5", " .. 1-5"},
		{"apart 0 0", "1 .. 1-5", ""},
		{"apart 0 0", " .. ", " .. "},

		{"union 0 1 2", "1 .. 1-5;2 .. 1-5; .. 0-63", "1 .. 1-5;2 .. 1-5;1 2 .. 1-5"},
		{"union 0 1 2", " .. 1-5; .. 4-9; .. 5-20", " .. 5; .. 5-9; .. 5-9"},
		{"union 0 1 2", " .. 1-2; .. 4-5; .. 1-9", " .. 1-2; .. 4-5; .. 1-2 4-5"},
		{"union 0 1 2", " .. 1-2; .. 1-5;4 .. 1-9", " .. 1-2;4 .. 1-5;4 .. 1-5"},
		{"union 0 1 2", " .. 1-5; .. 1-2;4 .. 1-9", "4 .. 1-5; .. 1-2;4 .. 1-5"},
		{"union 0 1 2", " .. 1-5; .. 1-5;4 .. 1-5", " .. 1-5; .. 1-5;4 .. 1-5"},
		{"union 0 1 2", " .. 1-9 # 0 .. 2; .. 1-9 # 0 .. 3; .. 1-9", " .. 1-9 # 0 .. 2; .. 1-9 # 0 .. 3; .. 1-9 # 0 .. 5"},
		{"union 0 1 2", " .. 1-9 # 2 .. 4; .. 1-9 # 3 .. 4; .. 1-9", " .. 1-9 # 2 .. 4; .. 1-9 # 3 .. 4; .. 1-9 # 3 .. 8"},
		{"union 0 1 2", " .. 1-9 # 3 .. 4; .. 1-9 # 2 .. 4; .. 1-9", " .. 1-9 # 3 .. 4; .. 1-9 # 2 .. 4; .. 1-9 # 3 .. 8"},
		// No more by sizes than the table says.
		{"union 0 1 2", " .. 1-9 # 0 .. 1; .. 1-9; .. 1-9 # 5 .. 9", " .. 1-9 # 0 .. 1; .. 1-9; .. 1-9 # 5 .. 9"},
		{"union 0 1 2", " .. 1-9; .. 1-9; .. 1-9 # 0 .. 2", " .. 1-9; .. 1-9; .. 1-9 # 0 .. 2"},
		{"union 0 1 2", "1 .. 1-5; .. 1-5; .. 2-5", ""},
		{"union 0 1 2", " .. 1-2; .. 3;4 .. 1-5", ""},
		{"union 0 0 1", "1 .. 1-5; .. 3-9", ""},
		{"union 0 0 1", "3 .. 1-5; .. 3-9", "3 .. 3-5;3 .. 3-5"},
		{"union 0 1 0", " .. 1-5;2 .. 0-9", "2 .. 1-5;2 .. 1-5"},

		{"meet 0 1 2", "1 2 .. 1-9;2 3 .. 1-9; .. 0-63", "1 2 .. 1-9;2 3 .. 1-9;2 .. 1-9"},
		{"meet 0 1 2", " .. 1-5; .. 1-5;3 .. 1-5", "3 .. 1-5;3 .. 1-5;3 .. 1-5"},
		{"meet 0 1 2", " .. 1-5; .. 4-9; .. 0-63", " .. 1-5; .. 4-9; .. 4-5"},
		{"meet 0 1 2", "1 .. 1-5; .. 1-5; .. 2-5", "1 .. 1-5; .. 2-5; .. 2-5"},
		{"meet 0 1 2", " .. 1-5;1 .. 1-5; .. 2-5", " .. 2-5;1 .. 1-5; .. 2-5"},
		{"meet 0 1 2", " .. 1-5; .. 1-5; .. 2-5", " .. 1-5; .. 1-5; .. 2-5"},
		{"meet 0 1 2", " .. 1-9 # 0 .. 2; .. 1-9 # 0 .. 3; .. 1-9", " .. 1-9 # 0 .. 2; .. 1-9 # 0 .. 3; .. 1-9 # 0 .. 2"},
		{"meet 0 1 2", " .. 1-9 # 0 .. 3; .. 1-9 # 0 .. 2; .. 1-9", " .. 1-9 # 0 .. 3; .. 1-9 # 0 .. 2; .. 1-9 # 0 .. 2"},
		{"meet 0 1 2", " .. 1-9; .. 1-9; .. 1-9 # 5 .. 9", " .. 1-9; .. 1-9; .. 1-9 # 5 .. 9"},
		{"meet 0 1 2", "1 .. 1-5;1 .. 1-5; .. 2-5", ""},
		{"meet 0 1 2", " .. 1-5; .. 2-5;1 .. 1-5", ""},
		{"meet 0 0 1", "1 .. 1-5; .. 0-9", "1 .. 1-5;1 .. 1-5"},
		{"meet 0 1 0", " .. 1-5; .. 3-9", " .. 3-5; .. 3-9"},

		{"minus 0 1 2", "1 2 .. 1-9; .. 2-9; .. 0-63", "1 2 .. 1-9; .. 2-9;1 .. 1-9"},
		{"minus 0 1 2", " .. 1-5; .. 1-5;3 .. 1-5", "3 .. 1-5; .. 1-2 4-5;3 .. 1-5"},
		{"minus 0 1 2", " .. 1-5;2 .. 1-5; .. 0-63", " .. 1-5;2 .. 1-5; .. 1 3-5"},
		{"minus 0 1 2", "1 .. 1-5; .. 1-5; .. 2-5", "1 .. 1-5;1 .. 1-5; .. 2-5"},
		{"minus 0 1 2", " .. 1-9 # 0 .. 2; .. 1-9; .. 1-9", " .. 1-9 # 0 .. 2; .. 1-9; .. 1-9 # 0 .. 2"},
		// No more than the table says: 1 is neither in Hi b nor in Hi c, and stays in Hi a.
		{"minus 0 1 2", " .. 1-5; .. 2-5; .. 2-5", " .. 1-5; .. 2-5; .. 2-5"},
		{"minus 0 1 2", " .. 1-5 # 3 .. 5; .. 1-5 # 0 .. 1; .. 1-5", " .. 1-5 # 3 .. 5; .. 1-5 # 0 .. 1; .. 1-5"},
		{"minus 0 1 2", "1 .. 1-5; .. 2-5; .. 2-5", ""},
		{"minus 0 1 2", " .. 1-5;1 .. 1-5;1 .. 1-5", ""},
		{"minus 0 1 2", " .. 2-5; .. 1-5;1 .. 1-5", ""},
		{"minus 0 0 1", "1 .. 1-5; .. 0-9", "1 .. 1-5; .. 2-5"},
		{"minus 0 1 0", "1 .. 1-5; .. 0-9", "1 .. 1-5; .. 0 2-9"},

		{"has 0=3", " .. 1-5", "3 .. 1-5"},
		{"has 0=3", "3 .. 1-5", "3 .. 1-5"},
		{"has 0=6", " .. 1-5", ""},
		{"has 0=0", " .. 0-63", "0 .. 0-63"},
		{"has 0=63", " .. 0-63", "63 .. 0-63"},
		{"has 0=3", " .. 1-5 # 0 .. 1", "3 .. 3"},
		{"has 0=64", " .. 0-63", ""},
		{"has 0=-1", " .. 0-63", ""},
		{"has 0=9223372036854775807", " .. 0-63", ""},
		{"has 0=-9223372036854775808", " .. 0-63", ""},

		{"lacks 0=3", " .. 1-5", " .. 1-2 4-5"},
		{"lacks 0=6", " .. 1-5", " .. 1-5"},
		{"lacks 0=3", "3 .. 1-5", ""},
		{"lacks 0=0", " .. 0-63", " .. 1-63"},
		{"lacks 0=63", " .. 0-63", " .. 0-62"},
		{"lacks 0=3", " .. 1-5 # 4 .. 5", "1-2 4-5 .. 1-2 4-5"},
		{"lacks 0=64", " .. 0-63", " .. 0-63"},
		{"lacks 0=-1", "0-63 .. 0-63", "0-63 .. 0-63"},
		{"lacks 0=9223372036854775807", " .. 0-63", " .. 0-63"},
		{"lacks 0=-9223372036854775808", " .. 0-63", " .. 0-63"},

		{"size 0=3", " .. 1-5", " .. 1-5 # 3 .. 3"},
		{"size 0=0", " .. 1-5", " .. "},
		{"size 0=5", " .. 1-5", "1-5 .. 1-5"},
		{"size 0=1", "2 .. 1-5", "2 .. 2"},
		{"size 0=6", " .. 1-5", ""},
		{"size 0=0", "2 .. 1-5", ""},
		{"size 0=-1", " .. 1-5", ""},
		{"size 0=64", " .. 0-63", "0-63 .. 0-63"},
		{"size 0=65", " .. 0-63", ""},
		{"size 0=9223372036854775807", " .. 0-63", ""},
		{"size 0=-9223372036854775808", " .. 0-63", ""},
		{"size 0=2", " .. 1-5 # 3 .. 4", ""},
	} {
		checkFix(t, rels(c.rel), c.rel, c.fams, c.want)
	}
}

// checkFix holds Fix against families that are brought to normal form; none are wanted where it fails.
func checkFix(t *testing.T, l []api.Rel, name, given, want string) {
	t.Helper()
	f := fams(given)
	got, err := family.Fix(l, f)
	if want == "" {
		if err != api.ErrFail || len(got) > 0 {
			t.Errorf("P7.2: Fix(%s, %s): %v, %d", name, given, got, err)
		}
	} else if wanted := normals(t, fams(want)); err != api.OK || !sameList(got, wanted) {
		t.Errorf("P7.2: Fix(%s, %s): %v, %d; not %v", name, given, got, err, wanted)
	}
	if !sameList(f, fams(given)) {
		t.Errorf("R4: Fix(%s, %s) changed its argument", name, given)
	}
}

func normals(t *testing.T, l []api.Family) (normal []api.Family) {
	t.Helper()
	for _, f := range l {
		g, err := family.Normal(f)
		if err != api.OK {
			t.Fatalf("P7.1: Normal(%v): %d", f, err)
		}
		normal = append(normal, g)
	}
	return normal
}

func TestFix(t *testing.T) {
	for _, c := range []struct{ rels, fams, want string }{
		{"", " .. 1-5;3 .. 3", " .. 1-5;3 .. 3"},
		// Families that are not normal, and one that stands for none.
		{"", "1 .. 1-5 # 0 .. 1; .. 1-3 # 3 .. 9", "1 .. 1;1-3 .. 1-3"},
		{"", " .. 1-5;1 .. 2", ""},
		{"size 0=2", " .. 1-5; .. 1 # 2 .. 1", ""},
		{"part 0 1", " .. 1-3 # 3 .. 9; .. 0-63", "1-3 .. 1-3;1-3 .. 0-63"},
		// Several steps.
		{"part 0 1;part 1 2;part 2 3", "1 .. 1-9; .. 0-63; .. 0-63; .. 1-4", "1 .. 1-4;1 .. 1-4;1 .. 1-4;1 .. 1-4"},
		{"part 2 3;part 1 2;part 0 1", "1 .. 1-9; .. 0-63; .. 0-63; .. 1-4", "1 .. 1-4;1 .. 1-4;1 .. 1-4;1 .. 1-4"},
		{"part 0 1;part 1 0", "1 .. 1-5;2 .. 2-9", ""},
		{"part 0 1;part 1 0", "1 .. 1-5 # 2 .. 4;2 .. 0-4", "1 2 .. 1-4 # 2 .. 4;1 2 .. 1-4 # 2 .. 4"},
		{"union 0 1 2;apart 0 1;has 0=1;has 1=2;size 2=2", " .. 1-5; .. 1-5; .. 1-5", "1 .. 1;2 .. 2;1-2 .. 1-2"},
		{"size 0=1;has 0=4;apart 0 1;size 1=2", " .. 3-5; .. 3-5", "4 .. 4;3 5 .. 3 5"},
		{"minus 0 1 2;union 1 2 3;has 0=1;lacks 1=1;size 3=1", " .. 1-3; .. 1-3; .. 1-3; .. 1-3", "1 .. 1-3; .. ;1 .. 1;1 .. 1"},
		{"meet 0 1 2;has 2=3;size 0=1;size 1=1", " .. 1-5; .. 1-5; .. 1-5", "3 .. 3;3 .. 3;3 .. 3"},
		{"has 0=1;lacks 0=1", " .. 1-5", ""},
		{"size 0=2;size 0=3", " .. 1-5", ""},
		{"apart 0 1;part 0 1;has 0=2", " .. 1-5; .. 1-5", ""},
		{"lacks 0=1;lacks 0=2;size 0=3", " .. 1-5", "3-5 .. 3-5"},
	} {
		checkFix(t, rels(c.rels), c.rels, c.fams, c.want)
	}
	if l, err := family.Fix(nil, nil); err != api.OK || len(l) > 0 {
		t.Errorf("P7.2: Fix of nothing: %v, %d", l, err)
	}
}

func TestFixNotValid(t *testing.T) {
	type input = struct {
		rels []api.Rel
		fams []api.Family
	}
	many := func(n int) []api.Family { return slices.Repeat(fams(" .. 1-5"), n) }
	inputs := map[string]input{
		"a relation without families": {rels("size 0=1"), nil},
		"a kind that there is not":    {rels("like 0 1"), many(2)},
		"no kind":                     {make([]api.Rel, 1), many(2)},
		"a place out of range":        {rels("part 0 2"), many(2)},
		"a place below 0":             {rels("has -1=2"), many(2)},
		"too many Vars":               {rels("part 0 1 1"), many(2)},
		"too many relations":          {slices.Repeat(rels("has 0=1"), api.MaxProps+1), many(2)},
		"too many families":           {nil, many(api.MaxPlaces + 1)},
		"too many, with a relation":   {rels("has 0=1"), many(api.MaxPlaces + 1)},
		"not valid behind what fails": {rels("has 0=9;part 0 7"), many(2)},
		"not valid, a failed family":  {rels("has 0=9;part 0 7"), fams("1 .. 2")},
	}
	for name, f := range notFamilies() {
		inputs["no family: "+name] = input{nil, []api.Family{f}}
		inputs["no family, none looks at it: "+name] = input{rels("has 0=1"), []api.Family{whole(), f}}
		inputs["no family behind a failed one: "+name] = input{rels("has 0=9"), []api.Family{fam("1 .. 2"), f}}
	}
	for name, c := range inputs {
		if l, err := family.Fix(c.rels, c.fams); err != api.ErrArg || len(l) > 0 {
			t.Errorf("P7.2: Fix of %s: %v, %d", name, l, err)
		}
	}
	full, most := slices.Repeat(rels("part 0 39"), api.MaxProps), many(api.MaxPlaces)
	if got, err := family.Fix(full, most); err != api.OK || !sameList(got, normals(t, most)) {
		t.Errorf("P7.2: Fix of as many as may be: %v, %d", got, err)
	}
}

func TestHolds(t *testing.T) {
	for _, c := range []struct {
		rel, sets string
		want      bool
	}{
		{"part 0 1", "1 2;1 2 3", true},
		{"part 0 1", "1 2;1 2", true},
		{"part 0 1", ";", true},
		{"part 0 1", ";1", true},
		{"part 0 1", "1;", false},
		{"part 0 1", "1 4;1 2 3", false},
		{"part 0 1", "1 2 3;1 2", false},
		{"part 0 0", "1 2", true},
		{"apart 0 1", "1 2;3 4", true},
		{"apart 0 1", "1 2;2 3", false},
		{"apart 0 1", ";2 3", true},
		{"apart 0 0", "", true},
		{"apart 0 0", "1", false},
		{"union 0 1 2", "1 2;2 3;1 2 3", true},
		{"union 0 1 2", "1;5;1 5", true},
		{"union 0 1 2", "5;1;1 5", true},
		{"union 0 1 2", ";;", true},
		{"union 0 1 2", "1;2;1 2 3", false},
		{"union 0 1 2", "1;2;1", false},
		{"union 0 1 2", "1;2;2", false},
		{"union 0 0 1", "1;1", true},
		{"meet 0 1 2", "1 2;2 3;2", true},
		{"meet 0 1 2", "1 2;3;", true},
		{"meet 0 1 2", "1 2;2 3;", false},
		{"meet 0 1 2", "1 2;2 3;2 3", false},
		{"meet 0 1 2", "1 2;2 3;1 2", false},
		{"meet 0 0 0", "1 2", true},
		{"minus 0 1 2", "1 2;2 3;1", true},
		{"minus 0 1 2", "1 2;1 2;", true},
		{"minus 0 1 2", "1 2;2 3;1 2", false},
		{"minus 0 1 2", "1 2;2 3;", false},
		{"minus 0 1 2", "1 2;2 3;1 3", false},
		{"minus 0 0 1", "1 2;", true},
		{"has 0=2", "1 2 3", true},
		{"has 0=4", "1 2 3", false},
		{"has 0=0", "", false},
		{"lacks 0=4", "1 2 3", true},
		{"lacks 0=2", "1 2 3", false},
		{"lacks 0=2", "", true},
		{"size 0=3", "1 2 3", true},
		{"size 0=2", "1 2 3", false},
		{"size 0=0", "", true},
		{"size 0=-1", "", false},
		// Any numbers.
		{"part 0 1", "-5 100;-5 3 100 1000000", true},
		{"apart 0 1", "-5 100;-4 101", true},
		{"union 0 1 2", "-5 100;-4 101;-5 -4 100 101", true},
		{"minus 0 1 2", "-5 100;100;-5", true},
		{"has 0=-5", "-5 100", true},
		{"has 0=64", "-5 64 100", true},
		{"lacks 0=-5", "-5 100", false},
		{"size 0=100", "0-99", true},
		{"size 0=100", "-1;1-100", false},
		{"has 0=9223372036854775807", "-9223372036854775808 9223372036854775807", true},
		{"lacks 0=0", "-9223372036854775808 9223372036854775807", true},
		// All of the lists ascend.
		{"part 0 1", "2 1;1 2", false},
		{"part 0 1", "1;1 1", false},
		{"part 0 0", "1;2 1", false},
		{"lacks 0=7", "1 2;3 3", false},
		{"size 0=2", "2 1", false},
		{"size 1=2", "1 2;1 2;-1 -2", false},
		// Not valid for so many lists.
		{"part 0 2", "1;1", false},
		{"part 0", "1;1", false},
		{"like 0 1", "1;1", false},
		{"size -1=1", "1;1", false},
		{"union 0 1", "1;1;1", false},
	} {
		var l [][]int
		for part := range strings.SplitSeq(c.sets, ";") {
			l = append(l, numbers(part))
		}
		given := fmt.Sprint(l)
		if family.Holds(rel(c.rel), l) != c.want {
			t.Errorf("P7.2: Holds(%s, %s): %t", c.rel, c.sets, !c.want)
		}
		if fmt.Sprint(l) != given {
			t.Errorf("R4: Holds(%s, %s) changed its argument", c.rel, c.sets)
		}
	}
	if family.Holds(rel("size 0=0"), nil) || !family.Holds(rel("size 0=0"), make([][]int, api.MaxPlaces)) || family.Holds(rel("size 0=0"), make([][]int, api.MaxPlaces+1)) {
		t.Error("P7.2: Holds of none, of as many as may be, or of one more")
	}
	long := upTo(200000)
	if !family.Holds(rel("minus 0 1 2"), [][]int{long, long[100000:], long[:100000]}) || !family.Holds(rel("union 0 1 2"), [][]int{long[100000:], long[:100001], long}) {
		t.Error("P7.2: Holds of long lists")
	}
}

// TestFixLong has long ways to the fixpoint: each round of the relations, in their order, tells one family more.
func TestFixLong(t *testing.T) {
	begin := time.Now()
	var back []api.Rel
	for x := api.MaxPlaces - 2; x >= 0; x-- {
		back = append(back, api.Rel{Kind: "part", Vars: []int{x, x + 1}})
	}
	l := slices.Repeat([]api.Family{whole()}, api.MaxPlaces)
	l[0].Lo = []int{5, 7}
	l[len(l)-1].Max = 2
	got, err := family.Fix(back, l)
	if err != api.OK || len(got) != len(l) {
		t.Fatalf("P7.2: Fix of a row: %v, %d", got, err)
	}
	for _, f := range got {
		if !same(f, fam("5 7 .. 5 7 # 2 .. 2")) {
			t.Errorf("P7.2: Fix of a row: %v", f)
		}
	}
	for range 2000 {
		family.Fix(back, l)
	}
	if d := time.Since(begin); d > 20*time.Second {
		t.Errorf("P7.2: Fix takes %v", d)
	}
}
