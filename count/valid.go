package count

import (
	"slices"

	"bijou/api"
)

// maxSeats is the greatest number of seats, or of stubs, of a show.
const maxSeats = api.MaxCounters * api.MaxRoll

func validEvening(v api.Evening) bool {
	shows := len(v.Prices)
	return isWithin(shows, 1, api.MaxBills) && len(v.Seats) == shows && len(v.Stubs) == shows &&
		areWithin(v.Prices, 1, api.MaxFare) && areWithin(v.Seats, 0, maxSeats) && areWithin(v.Stubs, 0, maxSeats) &&
		isWithin(len(v.Counters), 1, api.MaxCounters) &&
		!slices.ContainsFunc(v.Counters, func(c api.Counter) bool { return !validCounter(c, shows) })
}

func validCounter(c api.Counter, shows int) bool {
	return len(c.Sold) == shows && areWithin(c.Sold, 0, api.MaxRoll) &&
		areWithin([]int{c.First, c.Last, c.Float, c.Cash}, 0, api.MaxCash) &&
		isWithin(c.Void, 0, api.MaxRoll) && isWithin(roll(c), 0, api.MaxRoll)
}

// checkTruth returns the first error of a question about the truths of an evening, and a till and a show of it; 0 and 0 are always there.
func checkTruth(v api.Evening, till, show int) api.Errno {
	switch {
	case !validEvening(v):
		return api.ErrEvening
	case !isWithin(till, 0, len(v.Counters)-1) || !isWithin(show, 0, len(v.Prices)-1):
		return api.ErrArg
	case !hasTruth(v):
		return api.ErrNone
	}
	return api.OK
}

// hasTruth tells whether an evening has a truth: if there are as many tickets as seats, each can be given to one of them, whatever till it is from.
func hasTruth(v api.Evening) bool {
	rolls := 0
	for _, c := range v.Counters {
		rolls += roll(c)
	}
	return rolls == ticketsOf(v.Seats).together()
}

func areWithin(l []int, low, high int) bool {
	return !slices.ContainsFunc(l, func(n int) bool { return !isWithin(n, low, high) })
}

func isWithin(n, low, high int) bool { return low <= n && n <= high }
