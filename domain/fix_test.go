package domain_test

import (
	"math"
	"slices"
	"testing"
	"time"

	"manystrand/api"
	"manystrand/domain"
)

func TestFix(t *testing.T) {
	for _, c := range []struct{ props, doms, want string }{
		{"", "0#9;5", "0#9;5"},
		{"sum 0 1:1 1=3", "0#9;0#9", "0#3;0#3"},
		{"distinct 0 1", "1;1#2", "1;2"},
		{"distinct 0 1 2 3", "1;1#2;1#3;1#4", "1;2;3;4"},
		{"distinct 0 1 2", "1#2;1#2;1#2", "1#2;1#2;1#2"},
		{"most 0 1:1 -1=-1; most 1 2:1 -1=-1", "0#3;0#3;0#3", "0#1;1#2;2#3"},
		{"sum 0 1:1 1=10; sum 0 1:1 -1=2", "0#10;0#10", "2#10;0#8"},
		{"sum 0 1:2 2=4; most 0 1:1 -1=-1", "0#9;0#9", "0#1;1#2"},
		{"sum 0 0:1 1=6", "0#9", "0#6"},
		{"sum 0 0:1 -1=0", "4#9", "4#9"},
		{"product 0 0 1; sum 1:1=49", "0#9;0#1000", "7;49"},
		{"product 0 0 0", "0#9", "0#9"},
		{"product 0 0 0", "2 4#9", ""},
		{"element 0 1:5 3 5 9; unlike 1 2=0", "1#4;0#9;5", "2 4;3 9;5"},
		{"max 0 1 2; most 0 2:1 -1=-1", "0#9;0#9;5#9", "0#8;0#9;5#9"},
		{"reify 0 1 2=0; reify 0 2 1=-1", "0#1;0#9;0#9", "0#1;0#9;0#9"},
		{"reify 0 1 2=0; unlike 0 3=0", "0#1;5#9;0#4;0#1", "0;5#9;0#4;1"},
		{"apart 0 1:3 3; sum 1:1=4", "2#6;0#9", ""},
		{"apart 0 1:3 3; sum 1:1=4", "0#7;0#9", "0#1 7;4"},
		// Failed: one is empty, also one that no propagator looks at, or by several steps.
		{"", "0#9;", ""},
		{"sum 0:1=3", "0#9;", ""},
		{"sum 0 1:1 1=30", "0#9;0#9", ""},
		{"distinct 0 1 2", "1;1#2;1#2", ""},
		{"most 0 1:1 -1=-1; most 1 0:1 -1=-1", "0#1000;0#1000", ""},
		{"sum 0 0:1 -1=1", "0#1000", ""},
		{"unlike 0 1=0; sum 0 1:1 -1=0; sum 0:1=4", "0#9;0#9", ""},
	} {
		l := doms(c.doms)
		got, err := domain.Fix(props(c.props), l)
		if c.want == "" {
			if err != api.ErrFail || len(got) > 0 {
				t.Errorf("P6.2: Fix(%s, %s): %v, %d", c.props, c.doms, got, err)
			}
		} else if err != api.OK || !same(got, doms(c.want)) {
			t.Errorf("P6.2: Fix(%s, %s): %v, %d; not %s", c.props, c.doms, got, err, c.want)
		}
		if !same(l, doms(c.doms)) {
			t.Errorf("R4: Fix(%s, %s) changed its argument", c.props, c.doms)
		}
	}
	if l, err := domain.Fix(nil, nil); err != api.OK || len(l) > 0 {
		t.Errorf("P6.2: Fix of nothing: %v, %d", l, err)
	}
}

// invalid returns lists of propagators and domains that are not valid.
func invalid() map[string]struct {
	props []api.Prop
	doms  [][][2]int
} {
	type input = struct {
		props []api.Prop
		doms  [][][2]int
	}
	m := map[string]input{
		"a propagator without domains":  {props("distinct 0"), nil},
		"a kind that there is not":      {props("less 0 1"), doms("1;2")},
		"a place out of range":          {props("distinct 0 2"), doms("1;2")},
		"a coefficient of 0":            {props("sum 0 1:0 1=2"), doms("1;2")},
		"too many propagators":          {slices.Repeat(props("distinct 0"), api.MaxProps+1), doms("1#2")},
		"too many domains":              {props("distinct 0"), wholes(api.MaxPlaces + 1)},
		"too many domains, no props":    {nil, wholes(api.MaxPlaces + 1)},
		"not valid ahead of failed":     {props("distinct 0;distinct 0 1 7"), doms("1;1;")},
		"not valid behind what fails":   {props("distinct 0 0;distinct 0 7"), doms("1;1")},
		"a domain not valid and failed": {props("distinct 0 0"), [][][2]int{{{1, 1}}, {{2, 1}}}},
	}
	for name, d := range notDomains() {
		m["no domain: "+name] = input{props("distinct 0"), [][][2]int{{{1, 2}}, d}}
		m["no domain, failed: "+name] = input{props("distinct 0 0"), [][][2]int{{{1, 1}}, nil, d}}
	}
	return m
}

func TestNotValid(t *testing.T) {
	for name, c := range invalid() {
		if l, err := domain.Fix(c.props, c.doms); err != api.ErrArg || len(l) > 0 {
			t.Errorf("P6.2: Fix of %s: %v, %d", name, l, err)
		}
		if domain.Stable(c.props, c.doms) {
			t.Errorf("P6.2: Stable of %s", name)
		}
		if len(c.props) != 1 {
			continue
		}
		if l, err := domain.Narrow(c.props[0], c.doms); err != api.ErrArg || len(l) > 0 {
			t.Errorf("P6.2: Narrow of %s: %v, %d", name, l, err)
		}
		if is, err := domain.Entailed(c.props[0], c.doms); err != api.ErrArg || is {
			t.Errorf("P6.2: Entailed of %s: %t, %d", name, is, err)
		}
	}
}

func TestAsManyAsMayBe(t *testing.T) {
	l, many := wholes(api.MaxPlaces), slices.Repeat(props("distinct 0 1"), api.MaxProps)
	if got, err := domain.Fix(many, l); err != api.OK || !same(got, l) || !domain.Stable(many, l) {
		t.Errorf("P6.2: Fix of %d propagators and %d domains: %d", len(many), len(l), err)
	}
}

func TestStable(t *testing.T) {
	for _, c := range []struct {
		props, doms string
		want        bool
	}{
		{"", "0#9", true},
		{"", "0#9;", false},
		{"sum 0 1:1 1=3", "0#3;0#3", true},
		{"sum 0 1:1 1=3", "0#3;0#4", false},
		{"sum 0 1:1 1=3;distinct 0 1", "0#3;0#3", true},
		{"sum 0 1:1 1=3;distinct 0 1", "1;2", true},
		{"distinct 0 1;sum 0 1:1 1=3", "1;1", false},
		{"sum 0 1:1 1=3;unlike 0 1=1", "1;2", false},
		{"sum 0:1=3", "3;", false},
	} {
		if domain.Stable(props(c.props), doms(c.doms)) != c.want {
			t.Errorf("P6.2: Stable(%s, %s): %t", c.props, c.doms, !c.want)
		}
	}
	if !domain.Stable(nil, nil) {
		t.Error("P6.2: Stable of nothing")
	}
}

func TestHolds(t *testing.T) {
	for _, c := range []struct {
		prop   string
		values []int
		want   bool
	}{
		{"sum 0 1:2 -1=3", []int{4, 5}, true},
		{"sum 0 1:2 -1=3", []int{4, 6}, false},
		{"sum 0 1:2 -1=3", []int{-4, -11}, true},
		{"most 0 1:2 -1=3", []int{4, 5}, true},
		{"most 0 1:2 -1=3", []int{4, 6}, true},
		{"most 0 1:2 -1=3", []int{4, 4}, false},
		{"unlike 0 1=2", []int{3, 5}, false},
		{"unlike 0 1=2", []int{5, 3}, true},
		{"unlike 0 1=-2", []int{-3, -5}, false},
		{"distinct 0 1 2", []int{1, 2, 3}, true},
		{"distinct 0 1 2", []int{1, 2, 1}, false},
		{"distinct 0 1", []int{1, 2, 1}, true},
		{"distinct 0 0", []int{1, 2, 1}, false},
		{"distinct 0 1", []int{-1, 1}, true},
		{"product 0 1 2", []int{3, 4, 12}, true},
		{"product 0 1 2", []int{3, 4, 13}, false},
		{"product 0 1 2", []int{-3, 4, -12}, true},
		{"product 0 1 2", []int{-3, -4, 12}, true},
		{"product 0 1 2", []int{-3, -4, -12}, false},
		{"element 0 1:7 8", []int{1, 7}, true},
		{"element 0 1:7 8", []int{2, 8}, true},
		{"element 0 1:7 8", []int{2, 7}, false},
		{"element 0 1:7 8", []int{0, 7}, false},
		{"element 0 1:7 8", []int{3, 8}, false},
		{"element 0 1:7 8", []int{-1, 7}, false},
		{"element 0 1:-7 8", []int{1, -7}, true},
		{"max 0 1 2", []int{3, 5, 5}, true},
		{"max 0 1 2", []int{5, 3, 5}, true},
		{"max 0 1 2", []int{3, 5, 3}, false},
		{"max 0 1 2", []int{-3, -5, -3}, true},
		{"reify 0 1 2=2", []int{1, 5, 3}, true},
		{"reify 0 1 2=2", []int{0, 5, 3}, false},
		{"reify 0 1 2=2", []int{1, 6, 3}, false},
		{"reify 0 1 2=2", []int{0, 6, 3}, true},
		{"reify 0 1 2=2", []int{2, 5, 3}, false},
		{"reify 0 1 2=2", []int{-1, 6, 3}, false},
		{"apart 0 1:3 2", []int{1, 4}, true},
		{"apart 0 1:3 2", []int{1, 3}, false},
		{"apart 0 1:3 2", []int{5, 3}, true},
		{"apart 0 1:3 2", []int{4, 3}, false},
		{"apart 0 1:0 0", []int{4, 4}, true},
		// Not valid for so many places.
		{"sum 0 1:1 1=3", []int{3}, false},
		{"sum 0:0=0", []int{3}, false},
		{"less 0 1", []int{3, 4}, false},
		{"distinct 0", nil, false},
		{"distinct 0", make([]int, api.MaxPlaces), true},
		{"distinct 0", make([]int, api.MaxPlaces+1), false},
		// Numbers that do not fit into 64 bits on the way.
		{"sum 0 1:2 2=0", []int{math.MinInt, math.MinInt}, false},
		{"sum 0 1:1 1=0", []int{math.MinInt, math.MinInt}, false},
		{"sum 0 1:1 1=-1", []int{math.MinInt, math.MaxInt}, true},
		{"sum 0 1 2:1000000 -1000000 3=7", []int{math.MaxInt, math.MaxInt, 0}, false},
		{"sum 0 1 2:1000000 -1000000 1=7", []int{math.MaxInt, math.MaxInt, 7}, true},
		{"sum 0 1 2:1000000 -999999 -1=0", []int{math.MinInt, math.MinInt, math.MinInt}, true},
		{"most 0 1:1 1=0", []int{math.MaxInt, math.MaxInt}, false},
		{"most 0 1:1 1=0", []int{math.MinInt, math.MinInt}, true},
		{"most 0:4=0", []int{math.MaxInt}, false},
		{"most 0:-1=0", []int{math.MinInt}, false},
		{"unlike 0 1=1", []int{math.MaxInt, math.MinInt}, true},
		{"unlike 0 1=-1", []int{math.MinInt + 1, math.MinInt}, false},
		{"product 0 1 2", []int{1 << 32, 1 << 32, 0}, false},
		{"product 0 1 2", []int{math.MinInt, -1, math.MinInt}, false},
		{"product 0 1 2", []int{math.MinInt, 1, math.MinInt}, true},
		{"product 0 1 2", []int{-1, math.MaxInt, -math.MaxInt}, true},
		{"product 0 1 2", []int{math.MinInt, math.MinInt, 0}, false},
		{"product 0 1 2", []int{1 << 31, 1 << 31, 1 << 62}, true},
		{"product 0 1 2", []int{-1 << 31, 1 << 32, math.MinInt}, true},
		{"reify 0 1 2=1", []int{1, math.MinInt, math.MaxInt}, true},
		{"reify 0 1 2=-1", []int{0, math.MaxInt, math.MinInt}, true},
		{"reify 0 1 2=-1", []int{1, math.MaxInt, math.MinInt}, false},
		{"apart 0 1:1 1", []int{math.MaxInt, math.MaxInt}, false},
		{"apart 0 1:1 1", []int{math.MaxInt, math.MinInt}, true},
		{"apart 0 1:1000000 1000000", []int{math.MinInt, math.MaxInt}, true},
	} {
		given := slices.Clone(c.values)
		if domain.Holds(prop(c.prop), c.values) != c.want {
			t.Errorf("P6.2: Holds(%s, %v): %t", c.prop, c.values, !c.want)
		}
		if !slices.Equal(c.values, given) {
			t.Errorf("R4: Holds(%s) changed its values", c.prop)
		}
	}
}

func TestEntailed(t *testing.T) {
	for _, c := range []struct {
		prop, doms string
		want       bool
	}{
		{"sum 0 1:1 1=3", "1;2", true},
		{"sum 0 1:1 1=3", "1;2#3", false},
		{"sum 0 0:1 -1=0", "0#1000", true},
		{"most 0 1:1 -1=0", "0#3;3#5", true},
		{"most 0 1:1 -1=0", "0#4;3#5", false},
		{"most 0 0:1 -1=0", "0#4", true},
		{"unlike 0 1=0", "1 3;0 2 4", true},
		{"unlike 0 1=0", "1 3;0 2#3", false},
		{"unlike 0 0=1", "0#1000", true},
		{"distinct 0 1 2", "1 4;2 5;3 6", true},
		{"distinct 0 1 2", "1 4;2 5;3 5", false},
		{"distinct 0 0", "1", false},
		{"product 0 1 2", "0#9;0;0", true},
		{"product 0 1 2", "0#9;0;0#1", false},
		{"element 0 1:7 7 8", "1#2;7", true},
		{"element 0 1:7 7 8", "1#3;7", false},
		{"element 0 0:1 2 3", "1#3", true},
		{"max 0 1 2", "0#4;5;5", true},
		{"max 0 1 2", "0#6;5;5", false},
		{"max 0 0 0", "0#1000", true},
		{"reify 0 1 2=0", "1;0#3;3#9", true},
		{"reify 0 1 2=0", "0;4#9;0#3", true},
		{"reify 0 1 2=0", "0;3#9;0#3", false},
		{"apart 0 1:3 2", "0#1;4#9", true},
		{"apart 0 1:3 2", "0#2;4#9", false},
		// One of the list is empty.
		{"sum 0 1:1 1=3", "1;2;", true},
		{"sum 0 1:1 1=3", "1;3;", true},
		{"sum 0 1:1 1=3", ";3", true},
		{"sum 0 1 2:1 1 1=3", "0#1000;0#1000;", true},
		{"sum 0 1 2:1 1 1=3", "0#1000;0#1000;3;", true},
		// As many lists as there may be; other places do not count, nor one that stands twice.
		{"most 0 1:1 1=198", "0#99;0#99", true},
		{"most 0 1:1 1=197", "0#99;0#99", false},
		{"most 0 1:1 1=198", "0#99;0#99;0#1000", true},
		{"most 0 1 0 1:1 1 1 1=396", "0#99;0#99", true},
		{"most 0 1 2:1 1 1=1000", "0#9;0#9;0#99", true},
	} {
		l := doms(c.doms)
		is, err := domain.Entailed(prop(c.prop), l)
		if is != c.want || err != api.OK {
			t.Errorf("P6.2: Entailed(%s, %s): %t, %d", c.prop, c.doms, is, err)
		}
		if !same(l, doms(c.doms)) {
			t.Errorf("R4: Entailed(%s, %s) changed its argument", c.prop, c.doms)
		}
	}
	for _, c := range [][2]string{
		{"most 0 1:1 1=198", "0#99;0#100"},
		{"most 0 1:1 1=1000", "0#9;0#1000"},
		{"most 0 1:1 1=1", "0#99;0#100"},
		{"distinct 0 1 2", "0#999;0#9;0 2"},
	} {
		if is, err := domain.Entailed(prop(c[0]), doms(c[1])); is || err != api.ErrLimit {
			t.Errorf("P6.2: Entailed(%s, %s): %t, %d", c[0], c[1], is, err)
		}
	}
	all := api.Prop{Kind: "distinct", Vars: upTo(api.MaxPlaces)}
	if is, err := domain.Entailed(all, wholes(api.MaxPlaces)); is || err != api.ErrLimit {
		t.Errorf("P6.2: Entailed with all values at all places: %t, %d", is, err)
	}
}

// TestFixLong has the longest ways to the fixpoint: two variables or many that take one value a turn from each other.
func TestFixLong(t *testing.T) {
	begin := time.Now()
	ring := func(n, times int) (l []api.Prop) {
		for range times {
			for i := range n {
				l = append(l, api.Prop{Kind: "most", Vars: []int{i, (i + 1) % n}, Coefs: []int{1, -1}, N: -1})
			}
		}
		return l
	}
	for _, c := range []struct{ n, times int }{{2, 1}, {2, 50}, {40, 1}, {40, 2}, {3, 33}} {
		if l, err := domain.Fix(ring(c.n, c.times), wholes(c.n)); err != api.ErrFail || len(l) > 0 {
			t.Errorf("P6.2: Fix of a ring of %d: %d", c.n, err)
		}
	}
	wide := api.Prop{Kind: "sum", Vars: upTo(api.MaxPlaces), Coefs: many(api.MaxPlaces, 1), N: 20000}
	if l, err := domain.Fix(slices.Repeat([]api.Prop{wide}, api.MaxProps), wholes(api.MaxPlaces)); err != api.OK || len(l) != api.MaxPlaces {
		t.Errorf("P6.2: Fix of wide sums: %d", err)
	}
	if d := time.Since(begin); d > 20*time.Second {
		t.Errorf("P6.2: Fix takes %v", d)
	}
}
