package domain

import "manystrand/api"

// Narrow returns what one propagator keeps.
func Narrow(p api.Prop, l [][][2]int) ([][][2]int, api.Errno) {
	if !areValid([]api.Prop{p}, l) {
		return nil, api.ErrArg
	}
	doms := setsOf(l)
	var b bench
	b.narrow(p, doms)
	return rangesOf(doms), api.OK
}

// A bench is where one propagator works: for each place of its Vars it has the ends of the domain as it was,
// and what is kept of it. All that passes is told by the ends, but for `element`.
type bench struct {
	api.Prop
	low, high [api.MaxPlaces]int
	kept      [api.MaxPlaces]set
}

// narrow cuts domains down to what a propagator keeps, and returns the places that have less now, as bits,
// and whether one of the propagator's domains is empty.
func (b *bench) narrow(p api.Prop, doms []set) (less uint64, failed bool) {
	b.Prop = p
	for k, x := range p.Vars {
		if failed = doms[x].isEmpty(); failed {
			break
		}
		b.kept[k] = doms[x]
		b.low[k], b.high[k] = doms[x].ends()
	}
	if failed {
		clear(b.kept[:])
	} else {
		b.cut()
	}
	for k, x := range p.Vars {
		if doms[x].meet(&b.kept[k]) {
			less |= 1 << x
			failed = failed || doms[x].isEmpty()
		}
	}
	return less, failed
}

// cut leaves at each place what passes.
func (b *bench) cut() {
	switch b.Kind {
	case "sum":
		b.sum()
	case "most":
		b.most()
	case "unlike":
		b.unlike()
	case "distinct":
		b.distinct()
	case "product":
		b.product()
	case "element":
		b.element()
	case "max":
		b.greater()
	case "reify":
		b.reify()
	case "apart":
		b.apart()
	}
}

func (b *bench) isSingle(k int) bool { return b.low[k] == b.high[k] }

// term returns the least and the greatest value of the k-th Coef times its variable.
func (b *bench) term(k int) (least, greatest int) {
	x, y := b.Coefs[k]*b.low[k], b.Coefs[k]*b.high[k]
	return min(x, y), max(x, y)
}

// total returns the sums of the least and of the greatest terms.
func (b *bench) total() (least, greatest int) {
	for k := range b.Coefs {
		x, y := b.term(k)
		least, greatest = least+x, greatest+y
	}
	return least, greatest
}

func (b *bench) sum() {
	least, greatest := b.total()
	for k, c := range b.Coefs {
		x, y := b.term(k)
		b.kept[k].keep(quotients(c, b.N-(greatest-y), b.N-(least-x)))
	}
}

func (b *bench) most() {
	least, _ := b.total()
	for k, c := range b.Coefs {
		x, _ := b.term(k)
		b.kept[k].keep(quotients(c, x, b.N-(least-x)))
	}
}

// quotients returns between which numbers v lies if c v lies from low to high.
func quotients(c, low, high int) (least, greatest int) {
	if c < 0 {
		c, low, high = -c, -high, -low
	}
	return -floor(-low, c), floor(high, c)
}

// floor returns n / c, rounded down, for a c above 0.
func floor(n, c int) int {
	q := n / c
	if n%c < 0 {
		q--
	}
	return q
}

func (b *bench) unlike() {
	if b.isSingle(1) {
		v := b.low[1] - b.N
		b.kept[0].drop(v, v)
	}
	if b.isSingle(0) {
		v := b.low[0] + b.N
		b.kept[1].drop(v, v)
	}
}

func (b *bench) distinct() {
	for k := range b.Vars {
		if !b.isSingle(k) {
			continue
		}
		for other := range b.Vars {
			if other != k {
				b.kept[other].drop(b.low[k], b.low[k])
			}
		}
	}
}

func (b *bench) product() {
	b.factor(0, 1)
	b.factor(1, 0)
	b.kept[2].keep(b.low[0]*b.low[1], b.high[0]*b.high[1])
}

// factor cuts one factor down by the other one and the product.
func (b *bench) factor(k, other int) {
	if c := b.low[other]; c > 0 {
		b.kept[k].keep(0, b.high[2]/c)
	}
	if c := b.high[other]; c > 0 {
		b.kept[k].keep((b.low[2]+c-1)/c, api.MaxValue)
	} else if b.low[2] > 0 {
		b.kept[k] = set{} // whatever it is, the product is 0
	}
}

func (b *bench) element() {
	var places, values set
	for i, c := range b.Coefs {
		if b.kept[1].has(c) {
			places.add(i + 1)
		}
		if b.kept[0].has(i + 1) {
			values.add(c)
		}
	}
	b.kept[0].meet(&places)
	b.kept[1].meet(&values)
}

func (b *bench) greater() {
	b.atMost(0, 1)
	b.atMost(1, 0)
	b.kept[2].keep(max(b.low[0], b.low[1]), max(b.high[0], b.high[1]))
}

// atMost cuts one of two variables down by the other one and the greater one of both.
func (b *bench) atMost(k, other int) {
	low := 0
	if b.high[other] < b.low[2] {
		low = b.low[2] // the other one cannot be the greater one
	}
	b.kept[k].keep(low, b.high[2])
}

func (b *bench) reify() {
	least, greatest := 0, 1
	if b.low[1] > b.high[2]+b.N {
		greatest = 0
	}
	if b.high[1] <= b.low[2]+b.N {
		least = 1
	}
	b.kept[0].keep(least, greatest)
	if !b.isSingle(0) {
		return
	}
	switch b.low[0] {
	case 1:
		b.kept[1].keep(0, b.high[2]+b.N)
		b.kept[2].keep(b.low[1]-b.N, api.MaxValue)
	case 0:
		b.kept[1].keep(b.low[2]+b.N+1, api.MaxValue)
		b.kept[2].keep(0, b.high[1]-b.N-1)
	}
}

func (b *bench) apart() {
	d, e := b.Coefs[0], b.Coefs[1]
	b.kept[0].drop(b.high[1]-d+1, b.low[1]+e-1)
	b.kept[1].drop(b.high[0]-e+1, b.low[0]+d-1)
}
