package promise_test

import (
	"math"
	"math/rand"
	"slices"

	"bijou/api"
	"bijou/promise"
)

func span(low, high int) api.Span { return api.Span{Low: low, High: high} }

func showing(day, kind, room int) api.Showing {
	return api.Showing{Day: day, Kind: kind, Room: room}
}

func spot(spot, times, low, high, from, to int) api.Promise {
	return api.Promise{Spot: spot, Times: times, Kinds: span(low, high), From: from, To: to}
}

// always is a promise for all kinds and days.
func always(number, times int) api.Promise {
	return spot(number, times, 0, api.MaxKind, 0, api.MaxDate)
}

func ran(id, showing, spot int) api.Ran { return api.Ran{Id: id, Showing: showing, Spot: spot} }

// exampleC, exampleD and exampleL are the campaigns and the reports of the chapter's examples.
func exampleC() api.Campaign {
	return api.Campaign{
		Showings: []api.Showing{showing(1, 2, 1), showing(1, 5, 2), showing(3, 2, 1)},
		Promises: []api.Promise{spot(40, 2, 2, 2, 0, 9), spot(41, 2, 0, 9, 0, 2), spot(42, 1, 5, 9, 0, 9)},
	}
}

func exampleD() api.Campaign {
	return with(exampleC(), func(c *api.Campaign) { c.Promises[2].Times = 2 })
}

func exampleL() []api.Ran {
	return []api.Ran{ran(1, 0, 40), ran(2, 0, 40), ran(3, 1, 40), ran(4, 2, 41)}
}

// full is a campaign at all limits.
func full() api.Campaign {
	var c api.Campaign
	for range api.MaxShowings {
		c.Showings = append(c.Showings, showing(api.MaxDate, api.MaxKind, api.MaxRoom))
	}
	for n := range api.MaxPromises {
		c.Promises = append(c.Promises, always(99-n, api.MaxTimes))
	}
	return c
}

// fullReports are reports of the first spots of the full campaign, as many as there can be.
func fullReports() []api.Ran {
	var l []api.Ran
	for n := range api.MaxRan {
		l = append(l, ran(99-n, n%api.MaxShowings, 99-n/api.MaxShowings))
	}
	return l
}

// sound are campaigns without an error, most of them at the limits.
func sound() []api.Campaign {
	one := func(change func(c *api.Campaign)) api.Campaign { return with(exampleC(), change) }
	return []api.Campaign{
		exampleC(), exampleD(), full(), {},
		{Showings: []api.Showing{}, Promises: []api.Promise{}},
		one(func(c *api.Campaign) { c.Showings = nil }),
		one(func(c *api.Campaign) { c.Promises = nil }),
		one(func(c *api.Campaign) { c.Showings = make([]api.Showing, api.MaxShowings) }),
		one(func(c *api.Campaign) { c.Promises = make([]api.Promise, 1) }),
		one(func(c *api.Campaign) { c.Promises[1] = spot(99, 8, 9, 9, 99, 99) }),
		one(func(c *api.Campaign) { c.Promises[0] = spot(0, 0, 0, 0, 0, 0) }),
		one(func(c *api.Campaign) { c.Showings[1] = showing(99, 9, 6) }),
	}
}

// with returns a copy of a campaign in which something was changed.
func with(c api.Campaign, change func(*api.Campaign)) api.Campaign {
	c = clone(c)
	change(&c)
	return c
}

func clone(c api.Campaign) api.Campaign {
	return api.Campaign{Showings: slices.Clone(c.Showings), Promises: slices.Clone(c.Promises)}
}

func equal(a, b api.Campaign) bool {
	return slices.Equal(a.Showings, b.Showings) && slices.Equal(a.Promises, b.Promises)
}

// outside are numbers that are not from a first to a last one.
func outside(first, last int) map[string]int {
	return map[string]int{
		"just below": first - 1, "just above": last + 1, "the least": math.MinInt, "endless": math.MaxInt,
		"far below": -1 << 32, "far above": 1 << 32,
	}
}

// emptyPlan is the plan without any spots.
func emptyPlan(c api.Campaign) [][]int { return make([][]int, len(c.Showings)) }

// mostOf returns the greatest worth of a plan of a campaign that is known to be valid.
func mostOf(c api.Campaign) int {
	n, _ := promise.Most(c)
	return n
}

func stillOf(c api.Campaign, l []api.Ran, day int) int {
	n, _ := promise.Still(c, l, day)
	return n
}

func owedOf(c api.Campaign, l []api.Ran) []int {
	owed, _, _ := promise.Owed(c, l)
	return owed
}

func sum(l []int) int {
	n := 0
	for _, x := range l {
		n += x
	}
	return n
}

// timesOf returns the Times of all promises.
func timesOf(c api.Campaign) []int {
	var l []int
	for _, p := range c.Promises {
		l = append(l, p.Times)
	}
	return l
}

// The tests know what fits, counts and is owed from the words of the document, and the best plan from trying each plan.

func fits(c api.Campaign, promise, showing int) bool {
	p, s := c.Promises[promise], c.Showings[showing]
	return p.Kinds.Low <= s.Kind && s.Kind <= p.Kinds.High && p.From <= s.Day && s.Day <= p.To
}

// isPlan tells whether a plan is one of a campaign.
func isPlan(c api.Campaign, plan [][]int) bool {
	if len(plan) != len(c.Showings) {
		return false
	}
	for showing, l := range plan {
		last := -1
		for _, promise := range l {
			if promise <= last || promise >= len(c.Promises) || !fits(c, promise, showing) {
				return false
			}
			last = promise
		}
		if len(l) > c.Showings[showing].Room {
			return false
		}
	}
	return true
}

// countsBy returns the counts of all promises by a plan.
func countsBy(c api.Campaign, plan [][]int) []int {
	counts := make([]int, len(c.Promises))
	for n := range counts {
		for _, l := range plan {
			if slices.Contains(l, n) {
				counts[n]++
			}
		}
	}
	return counts
}

// worthBy returns the worth of a plan.
func worthBy(c api.Campaign, plan [][]int) int {
	worth := 0
	for n, count := range countsBy(c, plan) {
		worth += min(count, c.Promises[n].Times)
	}
	return worth
}

// subsets are all lists of numbers below one in strictly ascending order, the empty one first.
func subsets(below int) [][]int {
	all := [][]int{nil}
	for n := range below {
		for _, l := range all {
			all = append(all, append(slices.Clone(l), n))
		}
	}
	return all
}

// lists are all lists of promises that a showing can have.
func lists(c api.Campaign, showing int) [][]int {
	return slices.DeleteFunc(subsets(len(c.Promises)), func(l []int) bool {
		misfit := func(promise int) bool { return !fits(c, promise, showing) }
		return len(l) > c.Showings[showing].Room || slices.ContainsFunc(l, misfit)
	})
}

// eachPlan calls a function with all plans of a campaign.
func eachPlan(c api.Campaign, do func(plan [][]int)) {
	var goOn func(plan [][]int)
	goOn = func(plan [][]int) {
		if len(plan) == len(c.Showings) {
			do(plan)
			return
		}
		for _, l := range lists(c, len(plan)) {
			goOn(append(plan, l))
		}
	}
	goOn(nil)
}

// anyPlan returns a random plan of a campaign.
func anyPlan(rnd *rand.Rand, c api.Campaign) [][]int {
	var plan [][]int
	for showing := range c.Showings {
		l := lists(c, showing)
		plan = append(plan, l[rnd.Intn(len(l))])
	}
	return plan
}

// limit returns the Times of all promises that are not in a set, and the places of the set.
func limit(c api.Campaign, set []int) int {
	n := 0
	for promise, p := range c.Promises {
		if !slices.Contains(set, promise) {
			n += p.Times
		}
	}
	for showing, s := range c.Showings {
		fit := 0
		for _, promise := range set {
			if fits(c, promise, showing) {
				fit++
			}
		}
		n += min(fit, s.Room)
	}
	return n
}

// shown tells whether a report names a spot for a showing.
func shown(l []api.Ran, spot, showing int) bool {
	return slices.ContainsFunc(l, func(r api.Ran) bool { return r.Spot == spot && r.Showing == showing })
}

// countsOf returns for each promise the number of showings for which reports count for it.
func countsOf(c api.Campaign, l []api.Ran) []int {
	counts := make([]int, len(c.Promises))
	for promise, p := range c.Promises {
		for showing := range c.Showings {
			if fits(c, promise, showing) && shown(l, p.Spot, showing) {
				counts[promise]++
			}
		}
	}
	return counts
}

// wanted returns what is owed, and what was shown besides, by the words of the document.
func wanted(c api.Campaign, l []api.Ran) (owed []int, extra int) {
	for spot := range 100 {
		for showing := range c.Showings {
			if shown(l, spot, showing) {
				extra++
			}
		}
	}
	for n, count := range countsOf(c, l) {
		times := c.Promises[n].Times
		owed = append(owed, max(0, times-count))
		extra -= min(count, times)
	}
	return owed, extra
}

// madeGood returns the greatest worth for what is owed, by trying each plan that has nothing that was shown, and nothing before a day.
func madeGood(c api.Campaign, l []api.Ran, day int) int {
	owed, _ := wanted(c, l)
	most := 0
	left := with(c, func(c *api.Campaign) {
		for n, s := range c.Showings {
			if s.Day < day {
				c.Showings[n].Room = 0
			}
		}
	})
	eachPlan(left, func(plan [][]int) {
		for showing, spots := range plan {
			if slices.ContainsFunc(spots, func(n int) bool { return shown(l, c.Promises[n].Spot, showing) }) {
				return
			}
		}
		worth := 0
		for n, count := range countsBy(left, plan) {
			worth += min(count, owed[n])
		}
		most = max(most, worth)
	})
	return most
}

// Random campaigns have few kinds and days, so that promises fit some showings and not others.

func randomSpan(rnd *rand.Rand, below int) api.Span {
	low := rnd.Intn(below)
	return span(low, low+rnd.Intn(below-low))
}

func randomShowing(rnd *rand.Rand) api.Showing {
	return showing(rnd.Intn(4), rnd.Intn(4), rnd.Intn(4))
}

func randomPromise(rnd *rand.Rand, number, times int) api.Promise {
	kinds, days := randomSpan(rnd, 4), randomSpan(rnd, 4)
	return spot(number, rnd.Intn(times+1), kinds.Low, kinds.High, days.Low, days.High)
}

// randomCampaign has at most so many showings and promises, and spots below 10.
func randomCampaign(rnd *rand.Rand, showings, promises int) api.Campaign {
	var c api.Campaign
	for range rnd.Intn(showings + 1) {
		c.Showings = append(c.Showings, randomShowing(rnd))
	}
	spots := rnd.Perm(10)
	for n := range rnd.Intn(promises + 1) {
		c.Promises = append(c.Promises, randomPromise(rnd, spots[n], showings))
	}
	return c
}

// randomReports are at most so many reports about spots below 10, most of them promised ones, and some of which come twice.
func randomReports(rnd *rand.Rand, c api.Campaign, most int) []api.Ran {
	var l []api.Ran
	if len(c.Showings) == 0 {
		return nil
	}
	for id := range rnd.Intn(most + 1) {
		r := randomReport(rnd, c, id)
		if id > 0 && rnd.Intn(5) == 0 {
			r = l[rnd.Intn(id)]
		}
		l = append(l, r)
	}
	return l
}

func randomReport(rnd *rand.Rand, c api.Campaign, id int) api.Ran {
	r := ran(id, rnd.Intn(len(c.Showings)), rnd.Intn(10))
	if len(c.Promises) > 0 && rnd.Intn(4) > 0 {
		r.Spot = c.Promises[rnd.Intn(len(c.Promises))].Spot
	}
	return r
}

// eachCampaign calls a function with random campaigns of at most so many showings and promises.
func eachCampaign(seed int64, times, showings, promises int, do func(rnd *rand.Rand, c api.Campaign)) {
	rnd := rand.New(rand.NewSource(seed))
	for range times {
		do(rnd, randomCampaign(rnd, showings, promises))
	}
}
