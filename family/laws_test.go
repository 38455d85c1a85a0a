package family_test

import (
	"fmt"
	"maps"
	"math"
	"math/rand"
	"slices"
	"strings"
	"testing"

	"manystrand/api"
	"manystrand/family"
)

// subsets returns all lists of some numbers, in their order.
func subsets(l ...int) (all [][]int) {
	for bits := range 1 << len(l) {
		var s []int
		for k, n := range l {
			if bits>>k&1 == 1 {
				s = append(s, n)
			}
		}
		all = append(all, s)
	}
	return all
}

// families goes through all families of some elements and sizes.
func families(elements, sizes []int, yield func(api.Family)) {
	for _, lo := range subsets(elements...) {
		for _, hi := range subsets(elements...) {
			for _, least := range sizes {
				for _, most := range sizes {
					yield(api.Family{Lo: lo, Hi: hi, Min: least, Max: most})
				}
			}
		}
	}
}

func ascends(s []int) bool {
	return slices.IsSorted(s) && len(slices.Compact(slices.Clone(s))) == len(s)
}

func hasAll(l, part []int) bool {
	return !slices.ContainsFunc(part, func(n int) bool { return !slices.Contains(l, n) })
}

// standsFor is Has by the definition, for a family that is valid.
func standsFor(f api.Family, s []int) bool {
	return hasAll(s, f.Lo) && hasAll(f.Hi, s) && f.Min <= len(s) && len(s) <= f.Max
}

// normalOf returns the normal family that stands for some sets: they have its Lo in common, and its Hi together.
func normalOf(sets [][]int) api.Family {
	f := api.Family{Min: math.MaxInt}
	count := map[int]int{}
	for _, s := range sets {
		f.Min, f.Max = min(f.Min, len(s)), max(f.Max, len(s))
		for _, n := range s {
			count[n]++
		}
	}
	f.Hi = slices.Sorted(maps.Keys(count))
	for _, n := range f.Hi {
		if count[n] == len(sets) {
			f.Lo = append(f.Lo, n)
		}
	}
	return f
}

// isNormal reads the chapter's term.
func isNormal(f api.Family) bool {
	return hasAll(f.Hi, f.Lo) && f.Min >= len(f.Lo) && f.Max <= len(f.Hi) && f.Min <= f.Max &&
		(f.Min != len(f.Hi) || slices.Equal(f.Lo, f.Hi)) && (f.Max != len(f.Lo) || slices.Equal(f.Hi, f.Lo))
}

func TestAllFamiliesOfFew(t *testing.T) {
	elements, normal := []int{0, 31, 63}, 0
	families(elements, []int{0, 1, 2, 3, 4, 63, 64}, func(f api.Family) {
		var sets [][]int
		for _, s := range append(subsets(append(elements, 5)...), []int{31, 0}, []int{0, 0}, []int{63, 64}, []int{-1, 0}) {
			stands := ascends(s) && standsFor(f, s)
			if stands {
				sets = append(sets, s)
			}
			if family.Has(f, s) != stands {
				t.Fatalf("P7.1: Has(%v, %v): %t", f, s, !stands)
			}
		}
		if n, err := family.Count(f); n != len(sets) || err != api.OK {
			t.Fatalf("P7.1: Count(%v): %d, %d; not %d", f, n, err, len(sets))
		}
		got, err := family.Normal(f)
		if len(sets) == 0 && (err != api.ErrFail || !isZero(got)) || len(sets) > 0 && (err != api.OK || !same(got, normalOf(sets)) || !isNormal(got)) {
			t.Fatalf("P7.1: Normal(%v): %v, %d; it stands for %v", f, got, err, sets)
		}
		text, err := family.Text(f)
		if isNormal(f) != (err == api.OK) || isNormal(f) == (text == "") {
			t.Fatalf("P7.1: Text(%v): %q, %d", f, text, err)
		}
		loose := fmt.Sprintf("{%s} .. {%s} # %d .. %d", words(f.Lo), words(f.Hi), f.Min, f.Max)
		back, err := family.Parse(loose)
		if isNormal(f) && (text != loose || err != api.OK || !same(back, f)) || !isNormal(f) && (err != api.ErrForm || !isZero(back)) {
			t.Fatalf("P7.1: Parse(%q): %v, %d", loose, back, err)
		}
		if isNormal(f) {
			normal++
		}
		if family.Fixed(f) != slices.Equal(f.Lo, f.Hi) {
			t.Fatalf("Terms: Fixed(%v): %t", f, !slices.Equal(f.Lo, f.Hi))
		}
	})
	// Of each Lo and Hi: 1 where they are alike or differ by one element, 4 by two, 8 by three.
	if normal != 8+12+6*4+8 {
		t.Errorf("P7.1: %d normal families of three elements", normal)
	}
}

func words(l []int) string { return strings.Trim(fmt.Sprint(l), "[]") }

func TestMeetOfAllPairs(t *testing.T) {
	var all []api.Family
	families([]int{7, 8}, []int{0, 1, 2, 3}, func(f api.Family) { all = append(all, f) })
	for _, f := range all {
		for _, g := range all {
			var sets [][]int
			for _, s := range subsets(7, 8) {
				if standsFor(f, s) && standsFor(g, s) {
					sets = append(sets, s)
				}
			}
			got, err := family.Meet(f, g)
			if len(sets) == 0 && (err != api.ErrFail || !isZero(got)) || len(sets) > 0 && (err != api.OK || !same(got, normalOf(sets))) {
				t.Fatalf("P7.1: Meet(%v, %v): %v, %d; both stand for %v", f, g, got, err, sets)
			}
		}
	}
}

// A maker makes random families and relations.
type maker struct{ *rand.Rand }

func newMaker(seed int64) maker { return maker{rand.New(rand.NewSource(seed))} }

func pick[T any](m maker, l ...T) T { return l[m.Intn(len(l))] }

func kinds() []string {
	return []string{"part", "apart", "union", "meet", "minus", "has", "lacks", "size"}
}

// some returns a part of a list: none, all, or each with some chance.
func (m maker) some(l []int) (s []int) {
	chance := m.Intn(11)
	for _, n := range l {
		if m.Intn(10) < chance {
			s = append(s, n)
		}
	}
	return s
}

// family returns a family of some elements; now and then it is not normal, or stands for none.
func (m maker) family(elements []int) api.Family {
	hi := m.some(elements)
	if m.Intn(2) == 0 {
		hi = slices.Clone(elements)
	}
	f := api.Family{Lo: m.some(m.some(hi)), Hi: hi, Max: api.MaxElem + 1}
	switch m.Intn(8) {
	case 0:
		f.Min, f.Max = m.Intn(len(elements)+1), min(m.Intn(len(elements)+2), api.MaxElem+1)
	case 1, 2:
		f.Min = len(f.Lo) + m.Intn(len(hi)-len(f.Lo)+1)
		f.Max = f.Min + m.Intn(len(hi)-f.Min+1)
	}
	if m.Intn(60) == 0 {
		f.Lo = m.some(elements)
	}
	return f
}

func (m maker) families(n int, elements []int) (l []api.Family) {
	for range n {
		l = append(l, m.family(elements))
	}
	return l
}

func (m maker) relOf(kind string, n int, elements []int) api.Rel {
	r := api.Rel{Kind: kind, N: pick(m, append(elements, m.Intn(len(elements)+1))...)}
	if m.Intn(40) == 0 {
		r.N = pick(m, -1, api.MaxElem+1, api.MaxElem+2, math.MaxInt, math.MinInt)
	}
	count := map[string]int{"part": 2, "apart": 2, "union": 3, "meet": 3, "minus": 3, "has": 1, "lacks": 1, "size": 1}[kind]
	if kind == "size" {
		r.N = m.Intn(len(elements) + 1)
	}
	for range count {
		r.Vars = append(r.Vars, m.Intn(n))
	}
	return r
}

func (m maker) rels(count, n int, elements []int) (l []api.Rel) {
	for range count {
		l = append(l, m.relOf(pick(m, kinds()...), n, elements))
	}
	return l
}

// A clause of the chapter's table: an element for which all of its words are so gets the last word. `+a` is in Lo
// a, or into it; `-a` is not in Hi a, or out of it.
type clause []string

func clauses(kind string) []clause {
	return map[string][]clause{
		"part":  {{"+a", "+b"}, {"-b", "-a"}},
		"apart": {{"+a", "-b"}, {"+b", "-a"}},
		"union": {{"+a", "+c"}, {"+b", "+c"}, {"-c", "-a"}, {"-c", "-b"}, {"-a", "-b", "-c"}, {"+c", "-a", "+b"}, {"+c", "-b", "+a"}},
		"meet":  {{"+a", "+b", "+c"}, {"+c", "+a"}, {"+c", "+b"}, {"-a", "-c"}, {"-b", "-c"}, {"-c", "+a", "-b"}, {"-c", "+b", "-a"}},
		"minus": {{"+a", "-b", "+c"}, {"+c", "+a"}, {"+c", "-b"}, {"-a", "-c"}, {"+b", "-c"}, {"+a", "-c", "+b"}},
		"has":   {{"+a"}},
		"lacks": {{"-a"}},
	}[kind]
}

// A known is what is known of a set, element by element.
type known struct {
	in, out   map[int]bool
	min, max  int
	hasFailed bool
}

func knownOf(f api.Family) *known {
	k := &known{in: map[int]bool{}, out: map[int]bool{}, min: f.Min, max: f.Max}
	for _, n := range f.Lo {
		k.in[n] = true
	}
	for n := range api.MaxElem + 1 {
		if !slices.Contains(f.Hi, n) {
			k.out[n] = true
		}
	}
	k.tidy()
	return k
}

// tidy brings to normal form.
func (k *known) tidy() {
	open := api.MaxElem + 1
	for n := range api.MaxElem + 1 {
		if k.in[n] && k.out[n] {
			k.hasFailed = true
		}
		if k.in[n] || k.out[n] {
			open--
		}
	}
	most := len(k.in) + open
	k.min, k.max = max(k.min, len(k.in)), min(k.max, most)
	if k.min > k.max {
		k.hasFailed = true
	}
	if k.hasFailed || open == 0 {
		return
	}
	for n := range api.MaxElem + 1 {
		if k.in[n] || k.out[n] {
			continue
		}
		if k.min == most {
			k.in[n] = true
		} else if k.max == most-open {
			k.out[n] = true
		}
	}
}

func (k *known) family() api.Family {
	f := api.Family{Lo: slices.Sorted(maps.Keys(k.in)), Min: k.min, Max: k.max}
	for n := range api.MaxElem + 1 {
		if !k.out[n] {
			f.Hi = append(f.Hi, n)
		}
	}
	return f
}

// is reports whether a word of a clause is so for an element.
func is(word string, n int, at func(name byte) *known) bool {
	if word[0] == '+' {
		return at(word[1]).in[n]
	}
	return at(word[1]).out[n]
}

// follow applies one clause of one relation, brings what it changes to normal form, and reports whether there was
// anything to change.
func (c clause) follow(r api.Rel, at func(name byte) *known) (changed bool) {
	last := c[len(c)-1]
	for n := range api.MaxElem + 1 {
		so := len(c) > 1 || n == r.N
		for _, word := range c[:len(c)-1] {
			so = so && is(word, n, at)
		}
		if !so || is(last, n, at) {
			continue
		}
		changed = true
		k := at(last[1])
		if last[0] == '+' {
			k.in[n] = true
		} else {
			k.out[n] = true
		}
		k.tidy()
	}
	return changed
}

// followSizes does what the chapter says of sizes.
func followSizes(r api.Rel, at func(name byte) *known) (changed bool) {
	atMost := func(name byte, n int) {
		if k := at(name); k.max > n {
			k.max, changed = n, true
			k.tidy()
		}
	}
	atLeast := func(name byte, n int) {
		if k := at(name); k.min < n {
			k.min, changed = n, true
			k.tidy()
		}
	}
	switch r.Kind {
	case "part":
		atMost('a', at('b').max)
		atLeast('b', at('a').min)
	case "union":
		atMost('c', at('a').max+at('b').max)
		atLeast('c', at('a').min)
		atLeast('c', at('b').min)
	case "meet":
		atMost('c', at('a').max)
		atMost('c', at('b').max)
	case "minus":
		atMost('c', at('a').max)
	case "size":
		atLeast('a', r.N)
		atMost('a', r.N)
	}
	return changed
}

// naive is Fix by the chapter's table, one clause after the other in any order.
func naive(m maker, rels []api.Rel, l []api.Family) (fixed []api.Family, failed bool) {
	var all []*known
	for _, f := range l {
		all = append(all, knownOf(f))
	}
	var steps []func() bool
	for _, r := range rels {
		at := func(name byte) *known { return all[r.Vars[name-'a']] }
		steps = append(steps, func() bool { return followSizes(r, at) })
		for _, c := range clauses(r.Kind) {
			steps = append(steps, func() bool { return c.follow(r, at) })
		}
		if r.Kind == "has" && (r.N < 0 || r.N > api.MaxElem) {
			return nil, true
		}
	}
	for changed := true; changed; {
		changed = false
		m.Shuffle(len(steps), func(i, j int) { steps[i], steps[j] = steps[j], steps[i] })
		for _, step := range steps {
			if slices.ContainsFunc(all, func(k *known) bool { return k.hasFailed }) {
				return nil, true
			}
			changed = step() || changed
		}
	}
	for _, k := range all {
		if k.hasFailed {
			return nil, true
		}
		fixed = append(fixed, k.family())
	}
	return fixed, false
}

func TestFixByTable(t *testing.T) {
	m := newMaker(701)
	for _, kind := range append(kinds(), "") {
		failures, less := 0, 0
		for range 1500 {
			elements := pick(m, []int{0, 1, 62, 63}, upTo(7), upTo(64))
			l := m.families(1+m.Intn(5), elements)
			rels := m.rels(m.Intn(7), len(l), elements)
			if kind != "" {
				rels = []api.Rel{m.relOf(kind, len(l), elements)}
			}
			want, failed := naive(m, rels, l)
			got, err := family.Fix(rels, l)
			if failed != (err == api.ErrFail) || failed && len(got) > 0 || !failed && (err != api.OK || !sameList(got, want)) {
				t.Fatalf("P7.2: Fix(%v, %v): %v, %d; not %v, %t", rels, l, got, err, want, failed)
			}
			if failed {
				failures++
			} else if !sameList(want, normals(t, l)) {
				less++
			}
		}
		if failures < 20 || less < 100 {
			t.Errorf("%q: %d of 1500 failed, %d were narrowed", kind, failures, less)
		}
	}
}

// isClosed reports whether normal families have all that follows from relations.
func isClosed(m maker, rels []api.Rel, l []api.Family) bool {
	same, failed := naive(m, rels, l)
	return !failed && sameList(same, l)
}

// TestFixIsLeast holds Fix against the definition: of all lists of normal families below the given ones that have all
// that follows, Fix is the one that stands for the most.
func TestFixIsLeast(t *testing.T) {
	m := newMaker(702)
	elements := []int{3, 4}
	var normal []api.Family
	families(elements, upTo(3), func(f api.Family) {
		if isNormal(f) {
			normal = append(normal, f)
		}
	})
	isBelow := func(f, g api.Family) bool {
		return hasAll(f.Lo, g.Lo) && hasAll(g.Hi, f.Hi) && f.Min >= g.Min && f.Max <= g.Max
	}
	for range 150 {
		l := normals(t, []api.Family{pick(m, normal...), pick(m, normal...), pick(m, normal...)})
		rels := m.rels(1+m.Intn(3), len(l), elements)
		fixed, err := family.Fix(rels, l)
		if err == api.OK && !isClosed(m, rels, fixed) {
			t.Fatalf("P7.2: Fix(%v, %v): from %v more follows", rels, l, fixed)
		}
		for bits := range len(normal) * len(normal) * len(normal) {
			part := []api.Family{normal[bits%len(normal)], normal[bits/len(normal)%len(normal)], normal[bits/len(normal)/len(normal)]}
			below, less := true, err == api.OK
			for i, f := range part {
				below = below && isBelow(f, l[i])
				less = less && isBelow(f, fixed[i])
			}
			if below && !less && isClosed(m, rels, part) {
				t.Fatalf("P7.2: Fix(%v, %v): %v, %d; from %v nothing more follows", rels, l, fixed, err, part)
			}
		}
	}
}

func TestFixLaws(t *testing.T) {
	m := newMaker(703)
	fixedOnes := 0
	for range 4000 {
		elements := pick(m, []int{0, 1, 62, 63}, upTo(9), upTo(64))
		l := m.families(1+m.Intn(8), elements)
		rels := m.rels(m.Intn(8), len(l), elements)
		fixed, err := family.Fix(rels, l)

		other := slices.Clone(rels)
		m.Shuffle(len(other), func(i, j int) { other[i], other[j] = other[j], other[i] })
		if again, e := family.Fix(other, l); e != err || !sameList(again, fixed) {
			t.Fatalf("P7.3: Fix(%v, %v): %v, %d; in another order %v, %d", rels, l, fixed, err, again, e)
		}
		if err != api.OK {
			continue
		}
		fixedOnes++
		if again, e := family.Fix(rels, fixed); e != api.OK || !sameList(again, fixed) {
			t.Fatalf("P7.2: Fix of Fix(%v, %v): %v, %d; not %v", rels, l, again, e, fixed)
		}
		if slices.ContainsFunc(fixed, func(f api.Family) bool { return !family.Valid(f) || !isNormal(f) }) {
			t.Fatalf("P7.2: Fix(%v, %v) is not normal: %v", rels, l, fixed)
		}
	}
	if fixedOnes < 1000 {
		t.Errorf("%d of 4000 did not fail", fixedOnes)
	}
}

// holdsByTable reads the column `it holds if`, number by number.
func holdsByTable(r api.Rel, l [][]int) bool {
	in := func(k, n int) bool { return slices.Contains(l[r.Vars[k]], n) }
	each := func(holds func(n int) bool) bool {
		return !slices.ContainsFunc(slices.Concat(l...), func(n int) bool { return !holds(n) })
	}
	switch r.Kind {
	case "part":
		return each(func(n int) bool { return !in(0, n) || in(1, n) })
	case "apart":
		return each(func(n int) bool { return !in(0, n) || !in(1, n) })
	case "union":
		return each(func(n int) bool { return in(2, n) == (in(0, n) || in(1, n)) })
	case "meet":
		return each(func(n int) bool { return in(2, n) == (in(0, n) && in(1, n)) })
	case "minus":
		return each(func(n int) bool { return in(2, n) == (in(0, n) && !in(1, n)) })
	case "has":
		return in(0, r.N)
	case "lacks":
		return !in(0, r.N)
	case "size":
		return len(l[r.Vars[0]]) == r.N
	}
	panic(r.Kind)
}

func TestNoSolutionIsLost(t *testing.T) {
	m := newMaker(704)
	elements, found, lost := []int{2, 3, 63}, 0, 0
	for range 1500 {
		l := m.families(1+m.Intn(3), elements)
		rels := m.rels(1+m.Intn(3), len(l), elements)
		fixed, err := family.Fix(rels, l)
		sets := make([][]int, len(l))
		var from func(i int)
		from = func(i int) {
			if i < len(l) {
				for _, s := range subsets(elements...) {
					if sets[i] = s; standsFor(l[i], s) {
						from(i + 1)
					}
				}
				return
			}
			all := true
			for _, r := range rels {
				holds := holdsByTable(r, sets)
				if family.Holds(r, sets) != holds {
					t.Fatalf("P7.2: Holds(%v, %v): %t", r, sets, !holds)
				}
				all = all && holds
			}
			if !all {
				lost++
				return
			}
			found++
			for i, s := range sets {
				if err != api.OK || !standsFor(fixed[i], s) {
					t.Fatalf("P7.3: %v hold for %v of %v; Fix: %v, %d", rels, sets, l, fixed, err)
				}
			}
		}
		from(0)
	}
	if found < 1000 || lost < 1000 {
		t.Errorf("%d solutions, %d others", found, lost)
	}
}

// TestFixedFamilies: if all are fixed, Fix is OK exactly if all relations hold.
func TestFixedFamilies(t *testing.T) {
	m := newMaker(705)
	for _, kind := range append(kinds(), "") {
		seen := map[bool]int{}
		for range 3000 {
			elements := pick(m, []int{5}, []int{0, 63}, upTo(3))
			var l []api.Family
			var sets [][]int
			for range 1 + m.Intn(4) {
				s := m.some(elements)
				sets = append(sets, s)
				l = append(l, api.Family{Lo: s, Hi: s, Min: len(s), Max: len(s)})
			}
			rels := m.rels(m.Intn(3), len(l), elements)
			if kind != "" {
				rels = []api.Rel{m.relOf(kind, len(l), elements)}
			}
			hold := !slices.ContainsFunc(rels, func(r api.Rel) bool { return !family.Holds(r, sets) })
			got, err := family.Fix(rels, l)
			if hold && (err != api.OK || !sameList(got, l)) || !hold && err != api.ErrFail {
				t.Fatalf("P7.3: %v of %v hold: %t; Fix: %v, %d", rels, sets, hold, got, err)
			}
			seen[hold]++
		}
		if min(seen[true], seen[false]) < 200 {
			t.Errorf("%q: they held %d times, %d times they did not", kind, seen[true], seen[false])
		}
	}
}

// TestHoldsOfAnyNumbers holds Holds against the chapter's table, also for lists that do not ascend.
func TestHoldsOfAnyNumbers(t *testing.T) {
	m := newMaker(706)
	numbers := []int{math.MinInt, -5, -1, 0, 1, 63, 64, 1000, math.MaxInt}
	for _, kind := range kinds() {
		seen := map[bool]int{}
		for range 6000 {
			few := m.some(numbers)
			var l [][]int
			ascend := true
			for range 1 + m.Intn(4) {
				s := m.some(few)
				if m.Intn(30) == 0 {
					m.Shuffle(len(s), func(i, j int) { s[i], s[j] = s[j], s[i] })
				}
				if m.Intn(30) == 0 && len(s) > 0 {
					s = append(s, s[len(s)-1])
				}
				ascend = ascend && ascends(s)
				l = append(l, s)
			}
			r := m.relOf(kind, len(l), numbers)
			if kind == "union" && m.Intn(2) == 0 {
				// A random third set is seldom the union.
				s := slices.Concat(l[r.Vars[0]], l[r.Vars[1]])
				slices.Sort(s)
				l = append(l, slices.Compact(s))
				r.Vars[2] = len(l) - 1
			}
			want := ascend && holdsByTable(r, l)
			if family.Holds(r, l) != want {
				t.Fatalf("P7.2: Holds(%v, %v): %t", r, l, !want)
			}
			seen[want]++
		}
		if min(seen[true], seen[false]) < 300 {
			t.Errorf("%s: it held %d times, %d times it did not", kind, seen[true], seen[false])
		}
	}
}

// TestAnyArguments calls all functions with what is not valid in many ways.
func TestAnyArguments(t *testing.T) {
	m := newMaker(707)
	number := func() int { return pick(m, m.Intn(6), m.Intn(70)-3, -1, math.MaxInt, math.MinInt) }
	list := func() (l []int) {
		for range m.Intn(4) {
			l = append(l, number())
		}
		return l
	}
	for range 20000 {
		var l []api.Family
		for range m.Intn(4) {
			f := m.family(upTo(5))
			switch m.Intn(12) {
			case 0:
				f.Lo = list()
			case 1:
				f.Hi = list()
			case 2:
				f.Min, f.Max = number(), number()
			}
			l = append(l, f)
		}
		valid := true
		for _, f := range l {
			s := list()
			_, err := family.Normal(f)
			_, countErr := family.Count(f)
			_, meetErr := family.Meet(f, l[0])
			text, textErr := family.Text(f)
			if family.Valid(f) == (err == api.ErrArg) || family.Valid(f) == (countErr == api.ErrArg) || meetErr == api.OK && err != api.OK {
				t.Fatalf("P7.1: %v: valid %t; %d, %d, %d", f, family.Valid(f), err, countErr, meetErr)
			}
			if back, e := family.Parse(text); textErr == api.OK && (e != api.OK || !same(back, f)) || textErr != api.OK && text != "" {
				t.Fatalf("P7.1: Text(%v): %q, %d; back: %v, %d", f, text, textErr, back, e)
			}
			if (family.Has(f, s) || family.Fixed(f)) && !family.Valid(f) {
				t.Fatalf("P7.1: %v: has %v, or is fixed", f, s)
			}
			valid = valid && family.Valid(f)
		}
		r := api.Rel{Kind: pick(m, append(kinds(), "", "x")...), Vars: list(), N: number()}
		isRel := family.ValidRel(r, len(l))
		if got, err := family.Fix([]api.Rel{r}, l); (valid && isRel) == (err == api.ErrArg) || err != api.OK && len(got) > 0 {
			t.Fatalf("P7.2: Fix(%v, %v): %v, %d", r, l, got, err)
		}
		sets := [][]int{list(), list()}
		if family.Holds(r, sets) && (!family.ValidRel(r, 2) || !holdsByTable(r, sets)) {
			t.Fatalf("P7.2: Holds(%v, %v)", r, sets)
		}
		family.ValidRel(r, number())
	}
}

// TestCallsAreAlike: nothing is kept from call to call, and no two families of a result share memory.
func TestCallsAreAlike(t *testing.T) {
	m := newMaker(708)
	for range 300 {
		l := m.families(3, upTo(9))
		l = append(l, l[0], l[0])
		rels := m.rels(2, len(l), upTo(9))
		given := fmt.Sprint(rels, l)
		first, _ := family.Fix(rels, l)
		show := fmt.Sprint(first)
		for i, f := range first {
			rest := fmt.Sprint(first[i+1:])
			for _, part := range [][]int{f.Lo, f.Hi} {
				for k := range part {
					part[k] = -5
				}
				_ = append(part, -6)
			}
			if fmt.Sprint(first[i+1:]) != rest {
				t.Fatal("R4: families of Fix share memory")
			}
		}
		if fmt.Sprint(rels, l) != given {
			t.Fatal("R4: Fix changes what it was given")
		}
		if second, _ := family.Fix(rels, l); fmt.Sprint(second) != show {
			t.Fatal("R4: Fix keeps what it was given")
		}
	}
}
