package domain_test

import (
	"fmt"
	"math"
	"slices"
	"strings"
	"testing"

	"manystrand/api"
	"manystrand/domain"
)

// prop reads a propagator: its Kind, its Vars, and behind a colon its Coefs, behind an equals sign its N.
func prop(text string) api.Prop {
	var p api.Prop
	front, n, _ := strings.Cut(text, "=")
	fmt.Sscan(n, &p.N)
	vars, coefs, _ := strings.Cut(front, ":")
	fields := strings.Fields(vars)
	p.Kind, p.Vars, p.Coefs = fields[0], numbers(fields[1:]), numbers(strings.Fields(coefs))
	return p
}

func props(text string) (l []api.Prop) {
	for part := range strings.SplitSeq(text, ";") {
		if strings.TrimSpace(part) != "" {
			l = append(l, prop(part))
		}
	}
	return l
}

func numbers(words []string) (l []int) {
	for _, w := range words {
		n := 0
		if _, err := fmt.Sscan(w, &n); err != nil {
			panic(err)
		}
		l = append(l, n)
	}
	return l
}

func same(a, b [][][2]int) bool {
	return slices.EqualFunc(a, b, func(x, y [][2]int) bool { return slices.Equal(x, y) })
}

// many returns n times a number, or 0, 1, ..
func many(n, v int) []int { return slices.Repeat([]int{v}, n) }

func upTo(n int) (l []int) {
	for i := range n {
		l = append(l, i)
	}
	return l
}

func wholes(n int) [][][2]int { return slices.Repeat([][][2]int{{{0, api.MaxValue}}}, n) }

func TestValidProp(t *testing.T) {
	for _, text := range []string{
		"sum 0:1=0", "sum 0 1 2:1 -1 1000000=1000000", "sum 0 0:1 -1=-1000000", "most 2:-1000000=3", "most 1 1 1:1 1 1=0",
		"unlike 0 1=0", "unlike 0 0=-1000000", "distinct 0", "distinct 0 1 2 0", "product 0 1 2", "product 0 0 0",
		"element 0 1:5", "element 2 2:-1000000 0 1000000", "max 0 1 2", "max 1 1 1", "reify 0 1 2=-1000000", "reify 0 0 0=1000000",
		"apart 0 1:0 0", "apart 0 0:1000000 1000000",
		// N is not looked at.
		"distinct 0=1000001", "product 0 1 2=-1000001", "element 0 1:5=9999999", "max 0 1 2=1000001", "apart 0 1:0 0=1000001",
	} {
		if !domain.ValidProp(prop(text), 3) {
			t.Errorf("P6.2: %s is not valid", text)
		}
	}
	for _, text := range []string{
		// Kinds that there are not.
		"total 0:1=0", "Sum 0:1=0", "sums 0:1=0", "less 0 1", "minus 0 1 2",
		// Vars out of range.
		"sum 3:1=0", "sum -1:1=0", "most 0 3:1 1=0", "unlike 0 3=0", "unlike -1 0=0", "distinct 0 1 2 3", "product 0 1 3",
		"element 0 3:1", "element -1 0:1", "max 3 0 1", "reify 0 1 3=0", "apart 3 0:1 1",
		// Other numbers of Vars.
		"sum=0", "most=0", "distinct", "unlike 0=0", "unlike 0 1 2=0", "product 0 1", "product 0 1 2 0", "element 0:1",
		"element 0 1 2:1", "max 0 1", "max 0 1 2 0", "reify 0 1=0", "reify 0 1 2 0=0", "apart 0:1 1", "apart 0 1 2:1 1",
		// Other numbers of Coefs.
		"sum 0=0", "sum 0:1 1=0", "sum 0 1:1=0", "most 0 1:1=0", "most 0:1 1=0", "unlike 0 1:1=0", "distinct 0:1",
		"product 0 1 2:1", "element 0 1", "max 0 1 2:1", "reify 0 1 2:1=0", "apart 0 1", "apart 0 1:1", "apart 0 1:1 1 1",
		// Coefs out of range.
		"sum 0 1:1 0=0", "sum 0:1000001=0", "sum 0:-1000001=0", "most 0:0=0", "most 0:-1000001=0", "element 0 1:1000001",
		"element 0 1:3 -1000001", "apart 0 1:-1 0", "apart 0 1:0 -1", "apart 0 1:1000001 0", "apart 0 1:0 1000001",
		// N out of range.
		"sum 0:1=1000001", "sum 0:1=-1000001", "most 0:1=1000001", "unlike 0 1=1000001", "unlike 0 1=-1000001", "reify 0 1 2=1000001",
		"reify 0 1 2=-1000001",
	} {
		if domain.ValidProp(prop(text), 3) {
			t.Errorf("P6.2: %s is valid", text)
		}
	}
	if domain.ValidProp(api.Prop{}, 3) || domain.ValidProp(api.Prop{Kind: "", Vars: []int{0}}, 1) {
		t.Error("P6.2: a propagator of no kind is valid")
	}
}

func TestValidPropNumbers(t *testing.T) {
	p := prop("distinct 0")
	for n, want := range map[int]bool{math.MinInt: false, -1: false, 0: false, 1: true, api.MaxPlaces: true, api.MaxPlaces + 1: false, math.MaxInt: false} {
		if domain.ValidProp(p, n) != want {
			t.Errorf("P6.2: ValidProp with %d domains: %t", n, !want)
		}
	}
	full := api.MaxPlaces
	for _, n := range []int{full, full + 1, 100000} {
		for _, p := range []api.Prop{
			{Kind: "sum", Vars: many(n, 0), Coefs: many(n, 2)},
			{Kind: "most", Vars: many(n, 1), Coefs: many(n, -1)},
			{Kind: "distinct", Vars: many(n, 1)},
			{Kind: "element", Vars: []int{0, 1}, Coefs: many(n, 7)},
		} {
			if domain.ValidProp(p, 2) != (n == full) {
				t.Errorf("P6.2: a %s of %d is valid: %t", p.Kind, n, n != full)
			}
		}
	}
	for _, c := range []int{math.MinInt, math.MaxInt} {
		for _, p := range []api.Prop{
			{Kind: "sum", Vars: []int{0}, Coefs: []int{c}},
			{Kind: "sum", Vars: []int{0}, Coefs: []int{1}, N: c},
			{Kind: "apart", Vars: []int{0, 0}, Coefs: []int{c, 1}},
			{Kind: "element", Vars: []int{0, 0}, Coefs: []int{c, 1}},
			{Kind: "unlike", Vars: []int{0, 0}, N: c},
			{Kind: "distinct", Vars: []int{c}},
		} {
			if domain.ValidProp(p, 1) {
				t.Errorf("P6.2: %v is valid", p)
			}
		}
	}
}

func TestNarrow(t *testing.T) {
	for _, c := range []struct{ prop, doms, want string }{
		// sum: by the ends of the others alone.
		{"sum 0 1:1 1=3", "0#9;0#9", "0#3;0#3"},
		{"sum 0 1:1 1=3", "0#9;1#2", "1#2;1#2"},
		{"sum 0 1:2 2=7", "0#9;0#9", "0#3;0#3"},
		{"sum 0 1:1 -1=0", "0#5;3#9", "3#5;3#5"},
		{"sum 0 1:1 -1=-4", "0#9;0#9", "0#5;4#9"},
		{"sum 0 1:1 1=10", "0 4 9;0#1 5#6", "4 9;1 5#6"},
		{"sum 0 1:2 -3=1", "0#9;0#9", "1#9;0#5"},
		{"sum 0 1:-2 3=1", "0#9;0#9", "0#9;1#6"},
		{"sum 0 1:3 1=10", "0#9;2", ";2"},
		{"sum 0:3=7", "0#9", ""},
		{"sum 0:3=9", "0#9", "3"},
		{"sum 0:-3=-9", "0#9", "3"},
		{"sum 0:-1=1", "0#9", ""},
		{"sum 0:1=-1", "0#9", ""},
		{"sum 0 1:1 1=20", "0#9;0#9", ";"},
		{"sum 0 1:1 1=18", "0#9;0#9", "9;9"},
		{"sum 0 1:1000000 1=1000000", "0#1000;0#1000", "1;0#1000"},
		{"sum 0 1 2:1 1 1=1", "0#5;0#5;1#5", "0;0;1"},
		// A variable that stands twice is narrowed at each place by itself.
		{"sum 0 0:1 1=6", "0#9", "0#6"},
		{"sum 0 0:1 -1=1", "0#9", "1#8"},
		{"sum 0 0 0:1 1 -2=3", "2", ""},
		// The others as they were: the second one is not cut by what is cut of the first one.
		{"sum 0 1:1 1=3", "2#9;0#9", "2#3;0#1"},
		{"sum 0 1:1 -2=0", "0#9;2#9", "4#9;2#4"},
		// most.
		{"most 0 1:1 1=3", "0#9;0#9", "0#3;0#3"},
		{"most 0 1:1 1=3", "1#9;0 2 4", "1#3;0 2"},
		{"most 0 1:1 -1=-1", "0#9;0#9", "0#8;1#9"},
		{"most 0:-2=-7", "0#9", "4#9"},
		{"most 0:2=7", "0#9", "0#3"},
		{"most 0:1=-1", "0#9", ""},
		{"most 0 1:1 1=1", "1#9;1#9", ";"},
		{"most 0 0:1 1=5", "1#9", "1#4"},
		{"most 0 1:1 1=100", "0#9;0#9", "0#9;0#9"},
		{"most 0 1:1 -1=0", "5#9;0#3", ";"},
		// unlike.
		{"unlike 0 1=0", "3;0#5", "3;0#2 4#5"},
		{"unlike 0 1=0", "0#5;3", "0#2 4#5;3"},
		{"unlike 0 1=2", "3;0#9", "3;0#4 6#9"},
		{"unlike 0 1=2", "0#9;3", "0 2#9;3"},
		{"unlike 0 1=-2", "3;0#9", "3;0 2#9"},
		{"unlike 0 1=0", "3;3", ";"},
		{"unlike 0 1=1", "3;3", "3;3"},
		{"unlike 0 1=0", "0#5;0#5", "0#5;0#5"},
		{"unlike 0 1=1000000", "3;0#5", "3;0#5"},
		{"unlike 0 1=-1000000", "0#5;3", "0#5;3"},
		{"unlike 0 0=0", "0#5", "0#5"},
		{"unlike 0 0=0", "5", ""},
		{"unlike 0 0=1", "5", "5"},
		// distinct.
		{"distinct 0 1", "1;1#2", "1;2"},
		{"distinct 0 1 2", "1;1#3;2", "1;3;2"},
		{"distinct 0 1 2", "1;1#2;1#3", "1;2;2#3"},
		{"distinct 0 1 2", "1#2;1#2;1#2", "1#2;1#2;1#2"},
		{"distinct 0 1", "4;4", ";"},
		{"distinct 0 1 2", "4;4;4#5", ";;5"},
		{"distinct 0", "4", "4"},
		{"distinct 0 0", "4", ""},
		{"distinct 0 0", "4#5", "4#5"},
		{"distinct 0 2", "4;4;4#5", "4;4;5"},
		// product.
		{"product 0 1 2", "0#9;0#9;0#9", "0#9;0#9;0#9"},
		{"product 0 1 2", "2#9;3#9;0#20", "2#6;3#9;6#20"},
		{"product 0 1 2", "0#9;0#9;50#100", "6#9;6#9;50#81"},
		{"product 0 1 2", "0#9;0;0#100", "0#9;0;0"},
		{"product 0 1 2", "0#9;0;1#100", ";;"},
		{"product 0 1 2", "0;0#9;1#100", ";;"},
		{"product 0 1 2", "3;4;12", "3;4;12"},
		{"product 0 1 2", "3;4;13", ";;"},
		{"product 0 1 2", "3;4;11", ";;"},
		{"product 0 1 2", "2 4 7;3;0#100", "2 4 7;3;6#21"},
		{"product 0 0 1", "0#9;50", "6#9;50"},
		{"product 0 0 0", "2#9", "4"},
		{"product 0 1 2", "1000;1000;0#1000", ";;"},
		// element.
		{"element 0 1:4 5 4 6", "0#9;4#5", "1#3;4#5"},
		{"element 0 1:4 5 4 6", "1 3;0#9", "1 3;4"},
		{"element 0 1:4 5 4 6", "0#9;0#9", "1#4;4#6"},
		{"element 0 1:4 5", "5#9;0#9", ";"},
		{"element 0 1:4 5", "0;0#9", ";"},
		{"element 0 1:-4 1000000 1000 0", "0#9;0#1000", "3#4;0 1000"},
		{"element 0 1:-4", "1;0#9", ";"},
		{"element 0 0:3 1 2", "0#9", "1#3"},
		{"element 0 1:7 8 9", "1#3;8", "2;8"},
		// x by what i has as it was, i by what x has as it was.
		{"element 0 1:4 5", "1#2;5", "2;5"},
		{"element 0 1:4 5 6", "1#2;5#6", "2;5"},
		// max.
		{"max 0 1 2", "0#9;0#9;3#5", "0#5;0#5;3#5"},
		{"max 0 1 2", "0#9;0#2;3#5", "3#5;0#2;3#5"},
		{"max 0 1 2", "0#2;0#9;3#5", "0#2;3#5;3#5"},
		{"max 0 1 2", "4#6;2#9;0#20", "4#6;2#9;4#9"},
		{"max 0 1 2", "0#3;0#9;3#5", "0#3;0#5;3#5"},
		{"max 0 1 2", "3;5;5", "3;5;5"},
		{"max 0 1 2", "3;5;4", "3;;"},
		{"max 0 1 2", "3;3;4", ";;"},
		{"max 0 0 1", "0#9;3#5", "0#5;3#5"},
		{"max 0 1 0", "0#9;3#5", "3#9;3#5"},
		// reify.
		{"reify 0 1 2=0", "0#9;0#5;0#5", "0#1;0#5;0#5"},
		{"reify 0 1 2=0", "0#1;0#3;3#5", "1;0#3;3#5"},
		{"reify 0 1 2=0", "0#1;4#5;0#3", "0;4#5;0#3"},
		{"reify 0 1 2=0", "1;0#9;0#5", "1;0#5;0#5"},
		{"reify 0 1 2=0", "1;3#9;0#5", "1;3#5;3#5"},
		{"reify 0 1 2=0", "0;0#9;0#5", "0;1#9;0#5"},
		{"reify 0 1 2=0", "0;0#3;0#9", "0;1#3;0#2"},
		{"reify 0 1 2=2", "1;0#9;0#5", "1;0#7;0#5"},
		{"reify 0 1 2=-2", "1;0#9;0#5", "1;0#3;2#5"},
		{"reify 0 1 2=2", "0;0#9;0#9", "0;3#9;0#6"},
		{"reify 0 1 2=-2", "0;0#9;0#5", "0;0#9;0#5"},
		{"reify 0 1 2=0", "1;4;3", ";;"},
		{"reify 0 1 2=0", "0;3;4", ";;"},
		{"reify 0 1 2=1", "0#1;4;3", "1;4;3"},
		{"reify 0 1 2=1000000", "0#1;0#9;0#9", "1;0#9;0#9"},
		{"reify 0 1 2=-1000000", "0#1;0#9;0#9", "0;0#9;0#9"},
		{"reify 0 1 2=0", "2#9;0#9;0#9", ";0#9;0#9"},
		{"reify 0 1 2=0", "5;0#9;0#3", ";0#9;0#3"},
		{"reify 0 1 2=0", "1 5;0#9;0#3", "1;0#9;0#3"},
		{"reify 0 0 1=0", "0#9;0#9", "0#1;0#9"},
		{"reify 0 1 1=0", "0#9;0#5", "0#1;0#5"},
		// apart.
		{"apart 0 1:3 2", "0#9;0#9", "0#9;0#9"},
		{"apart 0 1:3 2", "0#5;0#4", "0#5;0#4"},
		{"apart 0 1:3 2", "0#5;2#4", "0#1 4#5;2#4"},
		{"apart 0 1:3 2", "4;0#9", "4;0#2 7#9"},
		{"apart 0 1:3 2", "0#9;4", "0#1 6#9;4"},
		{"apart 0 1:3 2", "4;5", ";"},
		{"apart 0 1:3 2", "4;7", "4;7"},
		{"apart 0 1:3 2", "4;2", "4;2"},
		{"apart 0 1:3 2", "4;6", ";"},
		{"apart 0 1:3 2", "4;3", ";"},
		{"apart 0 1:0 0", "4;4", "4;4"},
		{"apart 0 1:0 1", "0#9;4", "0#9;4"},
		{"apart 0 1:1000000 1000000", "0#9;0#9", ";"},
		{"apart 0 1:1000000 0", "0#9;5", "5#9;5"},
		{"apart 0 0:1 1", "0#9", "0#9"},
		{"apart 0 0:1 1", "4", ""},
		// Others stay as they are, also empty ones.
		{"sum 1 3:1 1=3", "0#9;0#9;;0#9;7", "0#9;0#3;;0#3;7"},
		// With an empty domain among Vars nothing passes.
		{"sum 0 1:1 1=3", "0#9;", ";"},
		{"most 0 1 2:1 1 1=300", "0#9;;0#9", ";;"},
		{"unlike 0 1=0", ";0#9", ";"},
		{"distinct 2 0", "4;4;", ";4;"},
		{"product 0 1 2", "0#9;0#9;", ";;"},
		{"element 0 1:4 5", "0#9;", ";"},
		{"max 0 1 2", ";0#9;0#9", ";;"},
		{"reify 0 1 2=0", "0#1;0#9;", ";;"},
		{"apart 0 1:0 0", ";0#9", ";"},
		{"distinct 0 0", "", ""},
	} {
		p, l := prop(c.prop), doms(c.doms)
		given := doms(c.doms)
		got, err := domain.Narrow(p, l)
		if want := doms(c.want); err != api.OK || !same(got, want) {
			t.Errorf("P6.2: Narrow(%s, %s): %v, %d; not %v", c.prop, c.doms, got, err, want)
		}
		if !same(l, given) {
			t.Errorf("R4: Narrow(%s, %s) changed its argument to %v", c.prop, c.doms, l)
		}
	}
}
