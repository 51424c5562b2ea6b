package share

import (
	"cmp"
	"slices"

	"bijou/api"
)

// find returns the contract of a film, and whether there is one.
func find(l []api.Contract, film int) (api.Contract, bool) {
	n := slices.IndexFunc(l, func(c api.Contract) bool { return c.Film == film })
	if n < 0 {
		return api.Contract{}, false
	}
	return l[n], true
}

// contractIn returns the contract of a film, which must have a week.
func contractIn(b api.Books, film, week int) (api.Contract, api.Errno) {
	if e := Check(b); e != api.OK {
		return api.Contract{}, e
	}
	c, ok := find(b.Contracts, film)
	if !ok || !hasWeek(c, week) {
		return api.Contract{}, api.ErrArg
	}
	return c, api.OK
}

// hasWeek tells whether a week is one of a contract.
func hasWeek(c api.Contract, week int) bool { return isWithin(week, c.First, c.Last) }

// byFilm returns contracts in the order of their films.
func byFilm(l []api.Contract) []api.Contract {
	l = slices.Clone(l)
	slices.SortFunc(l, func(a, b api.Contract) int { return cmp.Compare(a.Film, b.Film) })
	return l
}

// copyContracts returns equal contracts that share no memory with the given ones.
func copyContracts(l []api.Contract) []api.Contract {
	l = slices.Clone(l)
	for n := range l {
		l[n].Steps = slices.Clone(l[n].Steps)
		l[n].Tiers = slices.Clone(l[n].Tiers)
	}
	return l
}
