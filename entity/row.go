package entity

import (
	"cmp"
	"slices"

	"manystrand/api"
)

// A row is a dict's pairs, or an array's places with their variables: features ascending.
type row []pair

type pair struct {
	f api.Feat
	x int
}

// isFeat reports whether layer 2 has a feature. This layer calls api alone, so it does not ask layer 2.
func isFeat(f api.Feat) bool {
	if f.N != 0 {
		return 1 <= f.N && f.N <= api.MaxFeat && f.Text == ""
	}
	if len(f.Text) > api.MaxAtom {
		return false
	}
	for i := range len(f.Text) {
		if c := f.Text[i]; c != '\n' && (c < ' ' || c > '~') {
			return false
		}
	}
	return true
}

// order is the order of features: numbers ascending, then atoms by bytes.
func order(a, b api.Feat) int {
	switch {
	case a.N == 0 && b.N == 0:
		return cmp.Compare(a.Text, b.Text)
	case a.N == 0:
		return 1
	case b.N == 0:
		return -1
	}
	return cmp.Compare(a.N, b.N)
}

// byPlace is the order of an array's places, among which 0 is a number as others; what has a Text is none
// of them.
func byPlace(a, b api.Feat) int {
	if a.N == b.N {
		return cmp.Compare(a.Text, b.Text)
	}
	return cmp.Compare(a.N, b.N)
}

// where returns where in a dict or an array a feature stands, or would stand, and whether it is there.
func (t *thing) where(f api.Feat) (at int, is bool) {
	compare := order
	if t.sort == "array" {
		compare = byPlace
	}
	return slices.BinarySearchFunc(t.row, f, func(p pair, f api.Feat) int { return compare(p.f, f) })
}

// width returns how many places an array from low to high has: -1 if no array has so many, or so few.
func width(low, high int) int {
	// Differences that an int cannot hold are right as unsigned ones.
	switch {
	case high >= low && uint(high)-uint(low) < api.MaxFeat:
		return high - low + 1
	case high < low && high == low-1:
		return 0
	}
	return -1
}

// Row makes an array with a variable at places low to high.
func (y *Yard) Row(space, low, high, x int) (int, api.Errno) {
	err := y.check(space)
	places := width(low, high)
	switch {
	case err != api.OK:
		return 0, err
	case places < 0 || !isVar(x):
		return 0, api.ErrArg
	}
	l := make(row, places)
	for i := range l {
		l[i] = pair{api.Feat{N: low + i}, x}
	}
	return y.add(thing{sort: "array", space: space, row: l}), api.OK
}

// rowFor returns a thing of one of these sorts that may have a feature.
func (y *Yard) rowFor(n int, f api.Feat, sorts ...string) (*thing, api.Errno) {
	t, err := y.find(n, sorts...)
	switch {
	case err != api.OK:
		return nil, err
	case t.sort == "dict" && !isFeat(f):
		return nil, api.ErrArg
	}
	return t, api.OK
}

// At returns the variable at a feature of a dict, at a place of an array.
func (y *Yard) At(n int, f api.Feat) (int, api.Errno) {
	t, err := y.rowFor(n, f, "dict", "array")
	if err != api.OK {
		return 0, err
	}
	at, is := t.where(f)
	if !is {
		return 0, api.ErrNone
	}
	return t.row[at].x, api.OK
}

// Put puts a variable at a feature of a dict, at a place of an array, and returns the one that was there.
func (y *Yard) Put(n int, f api.Feat, x int) (old int, err api.Errno) {
	t, err := y.rowFor(n, f, "dict", "array")
	switch {
	case err != api.OK:
		return 0, err
	case !isVar(x):
		return 0, api.ErrArg
	}
	at, is := t.where(f)
	switch {
	case is:
		old, t.row[at].x = t.row[at].x, x
	case t.sort == "array":
		return 0, api.ErrNone
	default:
		t.row = slices.Insert(t.row, at, pair{f, x})
	}
	return old, api.OK
}

// Remove takes a feature from a dict, and returns the variable that was there.
func (y *Yard) Remove(n int, f api.Feat) (old int, err api.Errno) {
	t, err := y.rowFor(n, f, "dict")
	if err != api.OK {
		return 0, err
	}
	at, is := t.where(f)
	if !is {
		return 0, api.ErrNone
	}
	old = t.row[at].x
	t.row = slices.Delete(t.row, at, at+1)
	return old, api.OK
}

// Keys returns the features of a dict, the places of an array.
func (y *Yard) Keys(n int) ([]api.Feat, api.Errno) {
	t, err := y.find(n, "dict", "array")
	if err != api.OK {
		return nil, err
	}
	var l []api.Feat
	for _, p := range t.row {
		l = append(l, p.f)
	}
	return l, api.OK
}
