package record

import (
	"maps"

	"manystrand/api"
	"manystrand/tree"
)

// Partial is what is known of one record.
type Partial struct {
	label fact[string]
	width fact[int]
	has   features
	lacks features // of a closed one none: it lacks all that it has not
}

// A fact is something that is told, or not yet.
type fact[T comparable] struct {
	isTold bool
	is     T
}

func told[T comparable](is T) fact[T] { return fact[T]{true, is} }

// agrees reports whether two facts are not told unlike.
func (a fact[T]) agrees(b fact[T]) bool { return !a.isTold || !b.isTold || a.is == b.is }

// or returns a fact, or another one if it is not told.
func (a fact[T]) or(b fact[T]) fact[T] {
	if a.isTold {
		return a
	}
	return b
}

// features is a set of features.
type features map[api.Feat]bool

// shared returns how many features two sets have both.
func (a features) shared(b features) int {
	// To tell one thing more should not cost as much as all that is known.
	if len(a) > len(b) {
		a, b = b, a
	}
	count := 0
	for f := range a {
		if b[f] {
			count++
		}
	}
	return count
}

// New returns a partial record of which nothing is known.
func New() *Partial { return &Partial{has: features{}, lacks: features{}} }

// isNone reports whether a partial record was not made by New or Copy.
func (p *Partial) isNone() bool { return p == nil || p.has == nil }

// Copy returns a partial record of which the same is known.
func (p *Partial) Copy() *Partial {
	if p.isNone() {
		return nil
	}
	return &Partial{p.label, p.width, maps.Clone(p.has), maps.Clone(p.lacks)}
}

// Same reports whether the same is known of two partial records.
func Same(a, b *Partial) bool {
	return !a.isNone() && !b.isNone() && a.label == b.label && a.width == b.width &&
		maps.Equal(a.has, b.has) && maps.Equal(a.lacks, b.lacks)
}

// Tell adds one thing to what is known: label (a text), has, lacks (a feature), or width (a number).
func (p *Partial) Tell(kind string, text string, f api.Feat, n int) api.Errno {
	if p.isNone() {
		return api.ErrNil
	}
	q := New()
	switch {
	case kind == "label" && isLabel(text):
		q.label = told(text)
	case kind == "has" && tree.IsFeat(f):
		q.has[f] = true
	case kind == "lacks" && tree.IsFeat(f):
		q.lacks[f] = true
	case kind == "width" && 0 <= n && n <= api.MaxFeat:
		q.width = told(n)
	default:
		return api.ErrArg
	}
	return p.Join(q)
}

// Join adds all that is known of another partial record.
func (p *Partial) Join(q *Partial) api.Errno {
	switch {
	case p.isNone() || q.isNone():
		return api.ErrNil
	case !p.agrees(q):
		return api.ErrFail
	}
	p.label = p.label.or(q.label)
	p.width = p.width.or(q.width)
	maps.Copy(p.has, q.has)
	maps.Copy(p.lacks, q.lacks)
	if p.Closed() {
		clear(p.lacks)
	}
	return api.OK
}

// agrees reports whether what is known of two partial records can be so of one.
func (p *Partial) agrees(q *Partial) bool {
	width := p.width.or(q.width)
	count := len(p.has) + len(q.has) - p.has.shared(q.has)
	return p.label.agrees(q.label) && p.width.agrees(q.width) && (!width.isTold || count <= width.is) &&
		p.has.shared(q.lacks) == 0 && p.lacks.shared(q.has) == 0
}

// Closed reports whether all features are known.
func (p *Partial) Closed() bool {
	return !p.isNone() && p.width.isTold && p.width.is == len(p.has)
}

// isKnown reports whether all but the parts is known.
func (p *Partial) isKnown() bool { return p.Closed() && p.label.isTold }

// Known returns the record if all but its parts is known.
func (p *Partial) Known() (api.Graph, api.Errno) {
	switch {
	case p.isNone():
		return api.Graph{}, api.ErrNil
	case !p.isKnown():
		return api.Graph{}, api.ErrNone
	}
	return Make(p.label.is, p.Features())
}

// Has returns 1 if the record has a feature, 0 if it lacks it, -1 if that is not known.
func (p *Partial) Has(f api.Feat) int {
	switch {
	case p.isNone():
		return -1
	case p.has[f]:
		return 1
	case p.lacks[f] || p.Closed():
		return 0
	}
	return -1
}

// Features returns the features that the record has, in their order.
func (p *Partial) Features() []api.Feat {
	if p.isNone() {
		return nil
	}
	var l []api.Feat
	for f := range p.has {
		l = append(l, f)
	}
	return inOrder(l)
}

// Fits returns 1 if a graph's Root is the record that is known, 0 if it cannot be, -1 if it may be.
func (p *Partial) Fits(g api.Graph) int {
	if p.isNone() {
		return -1
	}
	root, err := rootOf(g)
	switch {
	case err != api.OK || !p.agrees(ofRecord(root)):
		return 0
	case p.isKnown():
		return 1
	}
	return -1
}

// ofRecord returns what is known of a record that is there: all but its parts.
func ofRecord(root api.Node) *Partial {
	p := &Partial{label: told(root.Text), width: told(len(root.Feats)), has: features{}}
	for _, f := range root.Feats {
		p.has[f] = true
	}
	return p
}
