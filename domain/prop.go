package domain

import (
	"slices"

	"manystrand/api"
)

// ValidProp reports whether a propagator is one of a list of n domains.
func ValidProp(p api.Prop, n int) bool {
	if n > api.MaxPlaces || !fits(p) {
		return false
	}
	inRange := func(x int) bool { return x >= 0 && x < n }
	return all(p.Vars, inRange) && all(p.Coefs, isCoef)
}

// fits reports whether a propagator's Kind is one of the table, with as many Vars and Coefs as it needs, and
// its N, if it names one, is within the bounds.
func fits(p api.Prop) bool {
	vars, coefs := len(p.Vars), len(p.Coefs)
	switch p.Kind {
	case "sum", "most":
		return isMany(vars) && coefs == vars && !slices.Contains(p.Coefs, 0) && isCoef(p.N)
	case "unlike":
		return vars == 2 && coefs == 0 && isCoef(p.N)
	case "distinct":
		return isMany(vars) && coefs == 0
	case "product", "max":
		return vars == 3 && coefs == 0
	case "element":
		return vars == 2 && isMany(coefs)
	case "reify":
		return vars == 3 && coefs == 0 && isCoef(p.N)
	case "apart":
		return vars == 2 && coefs == 2 && min(p.Coefs[0], p.Coefs[1]) >= 0
	}
	return false
}

func isMany(n int) bool { return n >= 1 && n <= api.MaxPlaces }

func isCoef(c int) bool { return c >= -api.MaxCoef && c <= api.MaxCoef }

func all[T any](l []T, ok func(T) bool) bool {
	return !slices.ContainsFunc(l, func(x T) bool { return !ok(x) })
}

// areValid reports whether domains and propagators of them are valid, and not too many.
func areValid(props []api.Prop, l [][][2]int) bool {
	return len(l) <= api.MaxPlaces && len(props) <= api.MaxProps && all(l, Valid) &&
		all(props, func(p api.Prop) bool { return ValidProp(p, len(l)) })
}
