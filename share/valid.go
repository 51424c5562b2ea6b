package share

import (
	"slices"

	"bijou/api"
)

const (
	maxPayments = 100
	maxPaid     = 1000000000
)

// validBooks tells whether books are valid, but for their reports.
func validBooks(b api.Books) bool {
	return isWithin(b.Tax, 0, api.MaxTax) && len(b.Contracts) <= api.MaxContracts &&
		all(b.Contracts, validContract) && eachFilmOnce(b.Contracts)
}

func validContract(c api.Contract) bool {
	return isWithin(c.Film, 0, api.MaxId) &&
		isWeek(c.First) && isWeek(c.Last) && c.First <= c.Last &&
		isWithin(len(c.Steps), 1, api.MaxSteps) && all(c.Steps, isMille) &&
		len(c.Tiers) <= api.MaxTiers && all(c.Tiers, validTier) && ascending(c.Tiers) &&
		isTake(c.Nut) && isTake(c.Floor) && isMille(c.Over) &&
		isWithin(c.Guarantee, 0, api.MaxSure)
}

func validTier(t api.Tier) bool { return isTake(t.From) && isMille(t.Mille) }

// ascending tells whether each tier is from more takings on than the one before.
func ascending(l []api.Tier) bool {
	for n, t := range l {
		if n > 0 && t.From <= l[n-1].From {
			return false
		}
	}
	return true
}

// eachFilmOnce tells whether no two contracts are for the same film.
func eachFilmOnce(l []api.Contract) bool {
	for n, c := range l {
		if _, twice := find(l[:n], c.Film); twice {
			return false
		}
	}
	return true
}

// validReports tells whether reports are valid for books, which may be other ones than those that they stand in.
func validReports(b api.Books, l []api.Report) bool {
	return len(l) <= api.MaxReports && all(l, func(r api.Report) bool { return validReport(b, r) })
}

func validReport(b api.Books, r api.Report) bool {
	c, ok := find(b.Contracts, r.Film)
	return ok && hasWeek(c, r.Week) && isWithin(r.Id, 0, api.MaxId) &&
		(r.Kind == api.Takings || r.Kind == api.Audited) &&
		isWithin(r.Till, 0, api.MaxTills-1) && isTake(r.Cents)
}

func validPayments(b api.Books, l []api.Payment) bool {
	return len(l) <= maxPayments && all(l, func(p api.Payment) bool {
		_, ok := find(b.Contracts, p.Film)
		return ok && isWithin(p.Cents, 0, maxPaid)
	})
}

// checkWeek returns the first error of books and a week.
func checkWeek(b api.Books, week int) api.Errno {
	if e := Check(b); e != api.OK {
		return e
	}
	if !isWeek(week) {
		return api.ErrArg
	}
	return api.OK
}

// all tells whether a function is true for each element.
func all[T any](l []T, is func(T) bool) bool {
	return !slices.ContainsFunc(l, func(x T) bool { return !is(x) })
}

func isWeek(n int) bool { return isWithin(n, 0, api.MaxWeeks) }

func isMille(n int) bool { return isWithin(n, 0, 1000) }

// isTake tells whether a number can be takings, or a share of them.
func isTake(n int) bool { return isWithin(n, 0, api.MaxTake) }

func isWithin(n, low, high int) bool { return low <= n && n <= high }
