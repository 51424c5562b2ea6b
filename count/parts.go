package count

import (
	"slices"

	"bijou/api"
)

// roll returns how many tickets a till sold by the numbers on its roll.
func roll(c api.Counter) int { return c.Last - c.First - c.Void }

// missing returns how much less money a till has than it should have if it sold some tickets, below 0 if it has more.
func missing(c api.Counter, sold, prices tickets) int {
	return c.Float + sold.cost(prices) - c.Cash
}

// firstPart returns the first thing of a valid evening that does not agree, and at which till or for which show.
func firstPart(v api.Evening) (what, which int) {
	var all tickets
	for till, c := range v.Counters {
		said := ticketsOf(c.Sold)
		switch {
		case said.together() != roll(c):
			return api.PartRoll, till
		case missing(c, said, ticketsOf(v.Prices)) != 0:
			return api.PartMoney, till
		}
		all = all.plus(said)
	}
	for show, seats := range v.Seats {
		if all[show] != seats {
			return api.PartSeats, show
		}
	}
	for show, stubs := range v.Stubs {
		if stubs > v.Seats[show] {
			return api.PartStubs, show
		}
	}
	return api.AgreeAll, -1
}

// byContent returns all tills ordered by what is known of them, so that nothing depends on which of them comes first.
func byContent(l []api.Counter) []int {
	numbers := func(c api.Counter) []int {
		return append(slices.Clone(c.Sold), c.First, c.Last, c.Void, c.Float, c.Cash)
	}
	var tills []int
	for till := range l {
		tills = append(tills, till)
	}
	slices.SortStableFunc(tills, func(a, b int) int { return slices.Compare(numbers(l[a]), numbers(l[b])) })
	return tills
}
