package domain_test

import (
	"fmt"
	"math"
	"math/big"
	"math/rand"
	"slices"
	"testing"

	"manystrand/api"
	"manystrand/domain"
)

// A maker makes random domains and propagators.
type maker struct{ *rand.Rand }

func newMaker(seed int64) maker { return maker{rand.New(rand.NewSource(seed))} }

func pick[T any](m maker, l ...T) T { return l[m.Intn(len(l))] }

func kinds() []string {
	return []string{"sum", "most", "unlike", "distinct", "product", "element", "max", "reify", "apart"}
}

// domain returns a domain of numbers to a greatest one: whole, single, with gaps, or empty now and then.
func (m maker) domain(greatest int) [][2]int {
	switch m.Intn(24) {
	case 0:
		return nil
	case 1, 2, 3, 4:
		v := m.Intn(greatest + 1)
		return [][2]int{{v, v}}
	case 5:
		return [][2]int{{0, greatest}}
	case 6, 7, 8, 9, 10:
		low := m.Intn(greatest + 1)
		return [][2]int{{low, low + m.Intn(greatest-low+1)}}
	case 11, 12:
		return slices.Clone(pick(m, dom("0#1"), dom("0"), dom("1")))
	}
	var l []int
	for range 1 + m.Intn(12) {
		v := m.Intn(greatest + 1)
		for range 1 + m.Intn(3) {
			l = append(l, min(v, greatest))
			v++
		}
	}
	d, _ := domain.Of(l)
	return d
}

func (m maker) domains(n, greatest int) (l [][][2]int) {
	for range n {
		l = append(l, m.domain(greatest))
	}
	return l
}

// prop returns a valid propagator of n domains of numbers to a greatest one.
func (m maker) prop(n, greatest int) api.Prop { return m.propOf(pick(m, kinds()...), n, greatest) }

func (m maker) propOf(kind string, n, greatest int) api.Prop {
	p := api.Prop{Kind: kind}
	vars := func(k int) {
		for range k {
			p.Vars = append(p.Vars, m.Intn(n))
		}
	}
	signed := func(n int) int { return m.Intn(2*n+1) - n }
	switch kind {
	case "sum", "most":
		vars(1 + m.Intn(4))
		for range p.Vars {
			p.Coefs = append(p.Coefs, pick(m, 1, 1, -1, 2, -2, 3, -5))
		}
		p.N = signed(2 * greatest)
		if m.Intn(9) == 0 {
			p.Coefs[0], p.N = pick(m, -1, 1)*(api.MaxCoef-m.Intn(9)), pick(m, p.N, signed(api.MaxCoef))
		}
	case "unlike":
		vars(2)
		p.N = pick(m, 0, signed(greatest))
	case "distinct":
		vars(1 + m.Intn(4))
	case "product", "max":
		vars(3)
	case "element":
		vars(2)
		for range 1 + m.Intn(6) {
			p.Coefs = append(p.Coefs, m.Intn(greatest+3)-1)
		}
	case "reify":
		vars(3)
		p.N = pick(m, 0, signed(greatest))
	case "apart":
		vars(2)
		p.Coefs = []int{m.Intn(greatest), m.Intn(greatest)}
	}
	return p
}

func (m maker) props(count, n, greatest int) (l []api.Prop) {
	for range count {
		l = append(l, m.prop(n, greatest))
	}
	return l
}

// passes reads the chapter's table: whether v passes at the k-th place of a propagator.
func passes(p api.Prop, k, v int, of func(k int) []int) bool {
	low := func(k int) int { return slices.Min(of(k)) }
	high := func(k int) int { return slices.Max(of(k)) }
	is := func(k, v int) bool { return slices.Equal(of(k), []int{v}) }
	has := func(k, v int) bool { return slices.Contains(of(k), v) }
	switch p.Kind {
	case "sum", "most":
		least, greatest := 0, 0
		for j, c := range p.Coefs {
			if j != k {
				least += min(c*low(j), c*high(j))
				greatest += max(c*low(j), c*high(j))
			}
		}
		if p.Kind == "most" {
			return p.Coefs[k]*v+least <= p.N
		}
		rest := p.N - p.Coefs[k]*v
		return least <= rest && rest <= greatest
	case "unlike":
		if k == 0 {
			return !is(1, v+p.N)
		}
		return !is(0, v-p.N)
	case "distinct":
		for j := range p.Vars {
			if j != k && is(j, v) {
				return false
			}
		}
		return true
	case "product":
		if k == 2 {
			return low(0)*low(1) <= v && v <= high(0)*high(1)
		}
		return v*low(1-k) <= high(2) && v*high(1-k) >= low(2)
	case "element":
		for i, c := range p.Coefs {
			if k == 0 && v == i+1 && has(1, c) || k == 1 && v == c && has(0, i+1) {
				return true
			}
		}
		return false
	case "max":
		if k == 2 {
			return max(low(0), low(1)) <= v && v <= max(high(0), high(1))
		}
		return v <= high(2) && (v >= low(2) || high(1-k) >= low(2))
	case "reify":
		switch {
		case k == 0:
			return v == 1 && low(1) <= high(2)+p.N || v == 0 && high(1) > low(2)+p.N
		case k == 1 && is(0, 1):
			return v <= high(2)+p.N
		case k == 1 && is(0, 0):
			return v > low(2)+p.N
		case k == 2 && is(0, 1):
			return low(1) <= v+p.N
		case k == 2 && is(0, 0):
			return high(1) > v+p.N
		}
		return true
	case "apart":
		if d, e := p.Coefs[0], p.Coefs[1]; k == 0 {
			return v+d <= high(1) || low(1)+e <= v
		} else {
			return low(0)+d <= v || v+e <= high(0)
		}
	}
	panic(p.Kind)
}

// keeps is Narrow by the chapter's table.
func keeps(p api.Prop, l [][][2]int) [][][2]int {
	var values [][]int
	for _, d := range l {
		values = append(values, domain.Values(d))
	}
	of := func(k int) []int { return values[p.Vars[k]] }
	isEmpty := slices.ContainsFunc(p.Vars, func(x int) bool { return len(values[x]) == 0 })
	var kept [][][2]int
	for x, all := range values {
		var rest []int
		for _, v := range all {
			stays := true
			for k, y := range p.Vars {
				if x == y && (isEmpty || !passes(p, k, v, of)) {
					stays = false
				}
			}
			if stays {
				rest = append(rest, v)
			}
		}
		d, _ := domain.Of(rest)
		kept = append(kept, d)
	}
	return kept
}

func anyEmpty(l [][][2]int) bool {
	return slices.ContainsFunc(l, func(d [][2]int) bool { return len(d) == 0 })
}

// texts shows domains.
func texts(l [][][2]int) (s []string) {
	for _, d := range l {
		text, _ := domain.Text(d)
		s = append(s, text)
	}
	return s
}

func TestNarrowByTable(t *testing.T) {
	m := newMaker(601)
	for _, kind := range kinds() {
		less := 0
		for round := range 6000 {
			greatest := pick(m, 5, 9, 9, 20, 70)
			if round%200 == 0 {
				greatest = api.MaxValue
			}
			l := m.domains(1+m.Intn(4), greatest)
			p := m.propOf(kind, len(l), greatest)
			got, err := domain.Narrow(p, l)
			want := keeps(p, l)
			if err != api.OK || !same(got, want) {
				t.Fatalf("P6.2: Narrow(%v, %v): %v, %d; not %v", p, texts(l), texts(got), err, texts(want))
			}
			if !same(l, want) {
				less++
			}
			if is := !anyEmpty(l) && same(l, want); is != domain.Stable([]api.Prop{p}, l) {
				t.Fatalf("P6.2: Stable(%v, %v): %t", p, texts(l), !is)
			}
		}
		if less < 500 || less > 5900 {
			t.Errorf("%s: %d of 6000 were narrowed", kind, less)
		}
	}
}

// naive is Fix by the chapter's table, round by round.
func naive(props []api.Prop, l [][][2]int) (fixed [][][2]int, failed bool) {
	for {
		before := l
		for _, p := range props {
			l = keeps(p, l)
		}
		if anyEmpty(l) {
			return nil, true
		}
		if same(l, before) {
			return l, false
		}
	}
}

func TestFixByTable(t *testing.T) {
	m := newMaker(602)
	failures := 0
	for range 4000 {
		greatest := pick(m, 5, 9, 20, 70)
		l := m.domains(1+m.Intn(6), greatest)
		props := m.props(m.Intn(7), len(l), greatest)
		want, failed := naive(props, l)
		got, err := domain.Fix(props, l)
		if failed != (err == api.ErrFail) || failed && len(got) > 0 || !failed && (err != api.OK || !same(got, want)) {
			t.Fatalf("P6.2: Fix(%v, %v): %v, %d; not %v, %t", props, texts(l), texts(got), err, texts(want), failed)
		}
		if failed {
			failures++
		}
		if !failed && !domain.Stable(props, got) {
			t.Fatalf("P6.2: Fix(%v, %v) is not stable: %v", props, texts(l), texts(got))
		}
	}
	if failures < 400 || failures > 3600 {
		t.Errorf("%d of 4000 failed", failures)
	}
}

// TestFixIsGreatest holds Fix against the definition: all lists of lesser domains that each propagator keeps
// whole, put together.
func TestFixIsGreatest(t *testing.T) {
	m := newMaker(603)
	for range 300 {
		l := m.domains(2+m.Intn(2), 3)
		props := m.props(1+m.Intn(3), len(l), 3)
		greatest := make([][][2]int, len(l))
		lists(l, func(part [][][2]int) {
			if anyEmpty(part) || slices.ContainsFunc(props, func(p api.Prop) bool { return !same(keeps(p, part), part) }) {
				return
			}
			for i := range part {
				greatest[i], _ = domain.Join(greatest[i], part[i])
			}
		})
		got, err := domain.Fix(props, l)
		if anyEmpty(greatest) && err != api.ErrFail || !anyEmpty(greatest) && (err != api.OK || !same(got, greatest)) {
			t.Fatalf("P6.2: Fix(%v, %v): %v, %d; not %v", props, texts(l), texts(got), err, texts(greatest))
		}
	}
}

// lists goes through all lists of domains below some.
func lists(l [][][2]int, yield func([][][2]int)) {
	var from func(i int, part [][][2]int)
	from = func(i int, part [][][2]int) {
		if i == len(l) {
			yield(part)
			return
		}
		values := domain.Values(l[i])
		for set := range 1 << len(values) {
			var some []int
			for k, v := range values {
				if set>>k&1 == 1 {
					some = append(some, v)
				}
			}
			d, _ := domain.Of(some)
			from(i+1, append(slices.Clone(part), d))
		}
	}
	from(0, nil)
}

func TestFixLaws(t *testing.T) {
	m := newMaker(604)
	for range 3000 {
		greatest := pick(m, 5, 9, 40, 1000)
		l := m.domains(1+m.Intn(8), greatest)
		props := m.props(m.Intn(10), len(l), greatest)
		fixed, err := domain.Fix(props, l)

		other := slices.Clone(props)
		m.Shuffle(len(other), func(i, j int) { other[i], other[j] = other[j], other[i] })
		if again, e := domain.Fix(other, l); e != err || !same(again, fixed) {
			t.Fatalf("P6.3: Fix(%v, %v): %v, %d; in another order %v, %d", props, texts(l), texts(fixed), err, texts(again), e)
		}
		if again, e := domain.Fix(props, fixed); err == api.OK && (e != api.OK || !same(again, fixed)) {
			t.Fatalf("P6.3: Fix of Fix(%v, %v): %v, %d; not %v", props, texts(l), texts(again), e, texts(fixed))
		}
		var small [][][2]int
		for _, d := range l {
			part, _ := domain.Meet(d, pick(m, d, dom("0#1000"), m.domain(greatest)))
			small = append(small, part)
		}
		less, e := domain.Fix(props, small)
		if err == api.ErrFail && e != api.ErrFail || e == api.OK && !isBelow(less, fixed) {
			t.Fatalf("P6.3: Fix(%v, ..) of %v: %v; of %v: %v", props, texts(small), texts(less), texts(l), texts(fixed))
		}
	}
}

func isBelow(a, b [][][2]int) bool {
	for i := range a {
		if more, _ := domain.Minus(a[i], b[i]); len(more) > 0 {
			return false
		}
	}
	return true
}

// solutions goes through all lists of values of domains.
func solutions(l [][][2]int, yield func([]int)) {
	values := make([]int, len(l))
	var from func(i int)
	from = func(i int) {
		if i == len(l) {
			yield(values)
			return
		}
		for _, v := range domain.Values(l[i]) {
			values[i] = v
			from(i + 1)
		}
	}
	from(0)
}

func TestNoSolutionIsLost(t *testing.T) {
	m := newMaker(605)
	found := 0
	for range 1500 {
		l := m.domains(1+m.Intn(3), 9)
		props := m.props(1+m.Intn(3), len(l), 9)
		fixed, _ := domain.Fix(props, l)
		solutions(l, func(values []int) {
			all := true
			for _, p := range props {
				holds := domain.Holds(p, values)
				if holds != holdsByTable(p, values) {
					t.Fatalf("P6.2: Holds(%v, %v): %t", p, values, holds)
				}
				if narrowed, _ := domain.Narrow(p, l); holds && !hasAll(narrowed, values) {
					t.Fatalf("P6.4: %v holds for %v of %v; Narrow: %v", p, values, texts(l), texts(narrowed))
				}
				all = all && holds
			}
			if all && !hasAll(fixed, values) {
				t.Fatalf("P6.4: %v hold for %v of %v; Fix: %v", props, values, texts(l), texts(fixed))
			}
			if all {
				found++
			}
		})
	}
	if found < 1000 {
		t.Errorf("%d solutions", found)
	}
}

func hasAll(l [][][2]int, values []int) bool {
	for i, v := range values {
		if i >= len(l) || !domain.Has(l[i], v) {
			return false
		}
	}
	return true
}

func TestSingleValues(t *testing.T) {
	m := newMaker(606)
	for _, kind := range kinds() {
		var seen [2]int
		for range 4000 {
			greatest := pick(m, 2, 4, 9)
			values := make([]int, 1+m.Intn(4))
			var l [][][2]int
			for i := range values {
				values[i] = m.Intn(greatest + 1)
				l = append(l, [][2]int{{values[i], values[i]}})
			}
			p := m.propOf(kind, len(l), greatest)
			holds := domain.Holds(p, values)
			narrowed, _ := domain.Narrow(p, l)
			if holds == anyEmpty(narrowed) {
				t.Fatalf("P6.4: %v for %v: Holds %t, Narrow %v", p, values, holds, texts(narrowed))
			}
			if _, err := domain.Fix([]api.Prop{p}, l); holds != (err == api.OK) {
				t.Fatalf("P6.4: %v for %v: Holds %t, Fix %d", p, values, holds, err)
			}
			if is, err := domain.Entailed(p, l); is != holds || err != api.OK {
				t.Fatalf("P6.2: Entailed(%v, %v): %t, %d", p, values, is, err)
			}
			if holds {
				seen[1]++
			} else {
				seen[0]++
			}
		}
		if min(seen[0], seen[1]) < 100 {
			t.Errorf("%s: it held %d times, %d times it did not", kind, seen[1], seen[0])
		}
	}
}

// holdsByTable reads the column `it holds if` with exact numbers.
func holdsByTable(p api.Prop, values []int) bool {
	num := func(n int) *big.Int { return big.NewInt(int64(n)) }
	at := func(k int) *big.Int { return num(values[p.Vars[k]]) }
	plus := func(a *big.Int, n int) *big.Int { return new(big.Int).Add(a, num(n)) }
	switch p.Kind {
	case "sum", "most":
		sum := new(big.Int)
		for k, c := range p.Coefs {
			sum.Add(sum, new(big.Int).Mul(num(c), at(k)))
		}
		return sum.Cmp(num(p.N)) == 0 || p.Kind == "most" && sum.Cmp(num(p.N)) < 0
	case "unlike":
		return plus(at(0), p.N).Cmp(at(1)) != 0
	case "distinct":
		for i := range p.Vars {
			for j := range i {
				if at(i).Cmp(at(j)) == 0 {
					return false
				}
			}
		}
		return true
	case "product":
		return new(big.Int).Mul(at(0), at(1)).Cmp(at(2)) == 0
	case "element":
		for i, c := range p.Coefs {
			if at(0).Cmp(num(i+1)) == 0 && at(1).Cmp(num(c)) == 0 {
				return true
			}
		}
		return false
	case "max":
		if at(0).Cmp(at(1)) > 0 {
			return at(2).Cmp(at(0)) == 0
		}
		return at(2).Cmp(at(1)) == 0
	case "reify":
		if at(1).Cmp(plus(at(2), p.N)) <= 0 {
			return at(0).Cmp(num(1)) == 0
		}
		return at(0).Sign() == 0
	case "apart":
		return plus(at(0), p.Coefs[0]).Cmp(at(1)) <= 0 || plus(at(1), p.Coefs[1]).Cmp(at(0)) <= 0
	}
	panic(p.Kind)
}

// TestHoldsExactly holds Holds against numbers of any length.
func TestHoldsExactly(t *testing.T) {
	m := newMaker(607)
	number := func() int {
		return pick(m, m.Intn(5), -m.Intn(5), math.MaxInt-m.Intn(3), math.MinInt+m.Intn(3), 1<<m.Intn(63), -1<<m.Intn(64), int(m.Uint64()), int(m.Uint64())>>m.Intn(64))
	}
	for _, kind := range kinds() {
		held := 0
		for range 20000 {
			values := make([]int, 1+m.Intn(5))
			for i := range values {
				values[i] = number()
			}
			p := m.propOf(kind, len(values), 9)
			if kind == "sum" || kind == "most" {
				for k := range p.Coefs {
					p.Coefs[k] = pick(m, p.Coefs[k], api.MaxCoef, -api.MaxCoef, 1<<m.Intn(19))
				}
			}
			aim(m, p, values)
			holds := domain.Holds(p, values)
			if holds != holdsByTable(p, values) {
				t.Fatalf("P6.2: Holds(%v, %v): %t", p, values, holds)
			}
			if holds {
				held++
			}
		}
		if held < 1000 {
			t.Errorf("%s held %d times", kind, held)
		}
	}
}

// aim now and then sets the last one of the values so that the propagator holds, as far as numbers without
// care for their length do.
func aim(m maker, p api.Prop, values []int) {
	if m.Intn(2) == 0 {
		return
	}
	at := func(k int) int { return values[p.Vars[k]] }
	last := p.Vars[len(p.Vars)-1]
	switch p.Kind {
	case "sum":
		p.Coefs[len(p.Coefs)-1] = -1
		values[last] = -p.N
		for k, c := range p.Coefs[:len(p.Coefs)-1] {
			values[last] += c * at(k)
		}
	case "product":
		values[last] = at(0) * at(1)
	case "max":
		values[last] = max(at(0), at(1))
	case "element":
		i := m.Intn(len(p.Coefs))
		values[p.Vars[0]], values[last] = i+1, p.Coefs[i]
	case "reify":
		values[p.Vars[0]] = m.Intn(2)
		values[last] = at(1) - p.N + m.Intn(3) - 1
	case "unlike":
		values[last] = at(0) + p.N
	case "apart":
		values[last] = at(0) + pick(m, p.Coefs[0], -p.Coefs[1]) + m.Intn(3) - 1
	}
}

func TestEntailedByTable(t *testing.T) {
	m := newMaker(608)
	held := 0
	for range 6000 {
		l := m.domains(1+m.Intn(4), pick(m, 3, 9))
		p := m.prop(len(l), 9)
		want := true
		solutions(l, func(values []int) { want = want && holdsByTable(p, values) })
		if is, err := domain.Entailed(p, l); is != want || err != api.OK {
			t.Fatalf("P6.2: Entailed(%v, %v): %t, %d", p, texts(l), is, err)
		}
		if want && !anyEmpty(l) {
			held++
		}
	}
	if held < 500 {
		t.Errorf("%d were entailed", held)
	}
}

// TestAnyArguments calls all functions with what is not valid in many ways.
func TestAnyArguments(t *testing.T) {
	m := newMaker(609)
	number := func() int {
		return pick(m, m.Intn(6), m.Intn(1100)-50, -1, math.MaxInt, math.MinInt, api.MaxCoef, -api.MaxCoef-1)
	}
	list := func() (l []int) {
		for range m.Intn(4) {
			l = append(l, number())
		}
		return l
	}
	for range 20000 {
		var l [][][2]int
		for range m.Intn(4) {
			d := m.domain(1000)
			for range m.Intn(2) {
				d = append(d, [2]int{number(), number()})
			}
			l = append(l, d)
		}
		p := api.Prop{Kind: pick(m, append(kinds(), "", "x")...), Vars: list(), Coefs: list(), N: number()}
		isValid := domain.ValidProp(p, len(l)) && !slices.ContainsFunc(l, func(d [][2]int) bool { return !domain.Valid(d) })
		_, err := domain.Narrow(p, l)
		_, fixErr := domain.Fix([]api.Prop{p}, l)
		_, entailedErr := domain.Entailed(p, l)
		if isValid != (err == api.OK) || isValid == (fixErr == api.ErrArg) || isValid == (entailedErr == api.ErrArg) {
			t.Fatalf("P6.2: %v, %v: valid %t; %d, %d, %d", p, l, isValid, err, fixErr, entailedErr)
		}
		if domain.Stable([]api.Prop{p}, l) && !isValid {
			t.Fatalf("P6.2: Stable(%v, %v)", p, l)
		}
		values := list()
		if domain.Holds(p, values) && (!domain.ValidProp(p, len(values)) || !holdsByTable(p, values)) {
			t.Fatalf("P6.2: Holds(%v, %v)", p, values)
		}
		domain.ValidProp(p, number())
	}
}

// TestCallsAreAlike: nothing is kept from call to call, and no two domains of a result share memory.
func TestCallsAreAlike(t *testing.T) {
	m := newMaker(610)
	for range 300 {
		l := m.domains(3, 20)
		l = append(l, l[0])
		props := m.props(3, len(l), 20)
		given := fmt.Sprint(props, l)
		for name, call := range map[string]func() [][][2]int{
			"Fix":    func() [][][2]int { got, _ := domain.Fix(props, l); return got },
			"Narrow": func() [][][2]int { got, _ := domain.Narrow(props[0], l); return got },
		} {
			first := call()
			show := fmt.Sprint(first)
			for i := range first {
				rest := fmt.Sprint(first[i+1:])
				for k := range first[i] {
					first[i][k] = [2]int{-5, -5}
				}
				first[i] = append(first[i], [2]int{-6, -6})
				if fmt.Sprint(first[i+1:]) != rest {
					t.Fatalf("R4: domains of %s share memory", name)
				}
			}
			if fmt.Sprint(props, l) != given || fmt.Sprint(call()) != show {
				t.Fatalf("R4: %s keeps or changes what it was given", name)
			}
		}
	}
}
