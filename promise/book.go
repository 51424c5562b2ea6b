package promise

import (
	"slices"

	"bijou/api"
)

// pair is the number of a promise, and that of a showing.
type pair struct{ promise, showing int }

// pairs are those that fit, those of a plan, or those that reports name.
type pairs map[pair]bool

// book is a campaign, and which of its promises fit which showings.
type book struct {
	api.Campaign
	fits pairs
}

func newBook(c api.Campaign) book {
	b := book{c, pairs{}}
	for promise, p := range b.Promises {
		for showing, s := range b.Showings {
			if fits(p, s) {
				b.fits[pair{promise, showing}] = true
			}
		}
	}
	return b
}

func fits(p api.Promise, s api.Showing) bool {
	return isWithin(s.Kind, p.Kinds.Low, p.Kinds.High) && isWithin(s.Day, p.From, p.To)
}

// validPlan tells whether a plan is one of the campaign.
func (b book) validPlan(plan [][]int) bool {
	if len(plan) != len(b.Showings) {
		return false
	}
	for showing, l := range plan {
		if len(l) > b.Showings[showing].Room || !b.canHave(showing, l) {
			return false
		}
	}
	return true
}

// canHave tells whether some promises fit a showing, and are in strictly ascending order.
func (b book) canHave(showing int, l []int) bool {
	for n, promise := range l {
		if !b.fits[pair{promise, showing}] || n > 0 && promise <= l[n-1] {
			return false
		}
	}
	return true
}

// pairsOf returns the pairs of a plan.
func pairsOf(plan [][]int) pairs {
	all := pairs{}
	for showing, l := range plan {
		for _, promise := range l {
			all[pair{promise, showing}] = true
		}
	}
	return all
}

// planOf returns the plan that has some pairs.
func (b book) planOf(l pairs) [][]int {
	plan := make([][]int, len(b.Showings))
	for showing := range b.Showings {
		plan[showing] = b.spots(l, showing)
	}
	return plan
}

// spots returns the promises that some pairs have for a showing.
func (b book) spots(l pairs, showing int) []int {
	var spots []int
	for promise := range len(b.Promises) {
		if l[pair{promise, showing}] {
			spots = append(spots, promise)
		}
	}
	return spots
}

// counts returns for each promise how many showings some pairs have.
func (b book) counts(l pairs) []int {
	counts := make([]int, len(b.Promises))
	for p := range l {
		counts[p.promise]++
	}
	return counts
}

// worth returns the worth of the plan that has some pairs.
func (b book) worth(l pairs) int {
	sum := 0
	for promise, count := range b.counts(l) {
		sum += min(count, b.Promises[promise].Times)
	}
	return sum
}

// promiseOf returns the number of the promise of a spot, -1 if there is none.
func (b book) promiseOf(spot int) int {
	return slices.IndexFunc(b.Promises, func(p api.Promise) bool { return p.Spot == spot })
}
