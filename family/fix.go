package family

import (
	"slices"

	"manystrand/api"
)

// Fix returns families in normal form, with all that follows from relations.
func Fix(rels []api.Rel, l []api.Family) ([]api.Family, api.Errno) {
	if !areValid(rels, l) {
		return nil, api.ErrArg
	}
	all := make([]bounds, len(l))
	for i, f := range l {
		all[i] = boundsOf(f)
		if !all[i].normalize() {
			return nil, api.ErrFail
		}
	}
	if !settle(rels, all) {
		return nil, api.ErrFail
	}
	fixed := make([]api.Family, len(l))
	for i, b := range all {
		fixed[i] = b.family()
	}
	return fixed, api.OK
}

// settle narrows normal families as long as something follows, or until one of them stands for no set. What
// follows grows with what is known, so any order ends with the same families.
func settle(rels []api.Rel, l []bounds) bool {
	for changed := true; changed; {
		before := slices.Clone(l)
		for _, r := range rels {
			if !follow(r, l) {
				return false
			}
		}
		changed = !slices.Equal(l, before)
	}
	return true
}

// follow narrows families by what follows from one relation, and reports whether they stand for any sets.
func follow(r api.Rel, l []bounds) bool {
	var at [maxVars]*bounds
	for k, x := range r.Vars {
		at[k] = &l[x]
	}
	a, b, c := at[0], at[1], at[2]
	switch r.Kind {
	case "part":
		part(a, b)
	case "apart":
		apart(a, b)
	case "union":
		union(a, b, c)
	case "meet":
		meet(a, b, c)
	case "minus":
		minus(a, b, c)
	case "has":
		if !isElement(r.N) {
			return false
		}
		a.into(1 << r.N)
	case "lacks":
		if isElement(r.N) {
			a.out(1 << r.N)
		}
	case "size":
		a.atLeast(r.N)
		a.atMost(r.N)
	}
	return !slices.ContainsFunc(r.Vars, func(x int) bool { return !l[x].normalize() })
}

func part(a, b *bounds) {
	b.into(a.lo)
	a.out(^b.hi)
	a.atMost(b.max)
	b.atLeast(a.min)
}

func apart(a, b *bounds) {
	a.out(b.lo)
	b.out(a.lo)
}

func union(a, b, c *bounds) {
	c.into(a.lo | b.lo)
	a.out(^c.hi)
	b.out(^c.hi)
	c.out(^a.hi & ^b.hi)
	a.into(c.lo &^ b.hi)
	b.into(c.lo &^ a.hi)
	c.atMost(a.max + b.max)
	c.atLeast(max(a.min, b.min))
}

func meet(a, b, c *bounds) {
	c.into(a.lo & b.lo)
	a.into(c.lo)
	b.into(c.lo)
	c.out(^a.hi | ^b.hi)
	a.out(b.lo &^ c.hi)
	b.out(a.lo &^ c.hi)
	c.atMost(min(a.max, b.max))
}

// minus says of a no more than chapter 7 does: what is neither in Hi b nor in Hi c stays in Hi a.
func minus(a, b, c *bounds) {
	c.into(a.lo &^ b.hi)
	a.into(c.lo)
	b.out(c.lo)
	c.out(^a.hi | b.lo)
	b.into(a.lo &^ c.hi)
	c.atMost(a.max)
}
