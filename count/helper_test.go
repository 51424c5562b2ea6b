package count_test

import (
	"math"
	"math/rand"
	"slices"

	"bijou/api"
)

func span(low, high int) api.Span { return api.Span{Low: low, High: high} }

func till(first, last, void, float, cash int, sold ...int) api.Counter {
	return api.Counter{Sold: sold, First: first, Last: last, Void: void, Float: float, Cash: cash}
}

// exampleV, exampleW and exampleX are the evenings of the chapter's examples.
func exampleV() api.Evening {
	return api.Evening{
		Prices: []int{5, 8}, Seats: []int{7, 6}, Stubs: []int{7, 5},
		Counters: []api.Counter{till(100, 106, 0, 10, 46, 4, 2), till(200, 208, 1, 0, 47, 3, 3)},
	}
}

func exampleW() api.Evening {
	return with(exampleV(), func(v *api.Evening) { v.Counters[1].Cash = 44 })
}

func exampleX() api.Evening {
	return with(exampleV(), func(v *api.Evening) {
		v.Counters[0] = till(100, 106, 0, 10, 52, 2, 4)
		v.Counters[1] = till(200, 207, 0, 0, 41, 5, 2)
	})
}

// single has one show with a price of 1, a till that sold nothing, and nothing that does not agree.
func single() api.Evening {
	return api.Evening{Prices: []int{1}, Seats: []int{0}, Stubs: []int{0}, Counters: []api.Counter{till(0, 0, 0, 0, 0, 0)}}
}

// equalTills has two equal tills that say they sold a ticket for the first show, though one of them is for the second.
func equalTills() api.Evening {
	return api.Evening{
		Prices: []int{5, 8}, Seats: []int{1, 1}, Stubs: []int{1, 1},
		Counters: []api.Counter{till(0, 1, 0, 0, 5, 1, 0), till(0, 1, 0, 0, 5, 1, 0)},
	}
}

// hopeless has one seat more than there are tickets: it has no truth.
func hopeless() api.Evening {
	return with(exampleV(), func(v *api.Evening) { v.Seats[0]++ })
}

// full is an evening at all limits, in which everything agrees.
func full() api.Evening {
	v := api.Evening{Prices: []int{50, 50, 50}, Seats: []int{28, 28, 24}, Stubs: []int{28, 28, 24}}
	for n := range api.MaxCounters {
		v.Counters = append(v.Counters, till(9959-n, 9999-n, 20, 8999, 9999, 7, 7, 6))
	}
	return v
}

// sound are evenings without an error, most of them at the limits.
func sound() []api.Evening {
	one := func(change func(v *api.Evening)) api.Evening { return with(exampleV(), change) }
	return []api.Evening{
		exampleV(), exampleW(), exampleX(), single(), equalTills(), hopeless(), full(),
		one(func(v *api.Evening) { v.Prices = []int{1, 50} }),
		one(func(v *api.Evening) { v.Seats = []int{0, 80} }),
		one(func(v *api.Evening) { v.Stubs = []int{80, 0} }),
		one(func(v *api.Evening) { v.Counters = v.Counters[:1] }),
		one(func(v *api.Evening) { v.Counters = append(v.Counters, v.Counters...) }),
		one(func(v *api.Evening) { v.Counters[0].Sold = []int{0, 20} }),
		one(func(v *api.Evening) { v.Counters[1].Sold = []int{20, 20} }),
		one(func(v *api.Evening) { v.Counters[0].Float, v.Counters[0].Cash = 0, 9999 }),
		one(func(v *api.Evening) { v.Counters[0].Float, v.Counters[0].Cash = 9999, 0 }),
		one(func(v *api.Evening) { v.Counters[0] = till(0, 0, 0, 0, 0, 0, 0) }),
		one(func(v *api.Evening) { v.Counters[0] = till(0, 20, 20, 0, 0, 0, 0) }),
		one(func(v *api.Evening) { v.Counters[0] = till(9959, 9999, 20, 0, 0, 0, 0) }),
		one(func(v *api.Evening) { v.Counters[1] = till(9999, 9999, 0, 0, 0, 0, 0) }),
	}
}

// with returns a copy of an evening in which something was changed.
func with(v api.Evening, change func(v *api.Evening)) api.Evening {
	v = clone(v)
	change(&v)
	return v
}

func clone(v api.Evening) api.Evening {
	v.Prices, v.Seats, v.Stubs = slices.Clone(v.Prices), slices.Clone(v.Seats), slices.Clone(v.Stubs)
	v.Counters = slices.Clone(v.Counters)
	for n, c := range v.Counters {
		v.Counters[n].Sold = slices.Clone(c.Sold)
	}
	return v
}

func equal(a, b api.Evening) bool {
	return slices.Equal(a.Prices, b.Prices) && slices.Equal(a.Seats, b.Seats) && slices.Equal(a.Stubs, b.Stubs) && slices.EqualFunc(a.Counters, b.Counters, equalCounters)
}

func equalCounters(a, b api.Counter) bool {
	return slices.Equal(a.Sold, b.Sold) && a.First == b.First && a.Last == b.Last && a.Void == b.Void && a.Float == b.Float && a.Cash == b.Cash
}

// outside are numbers that are not from a first to a last one.
func outside(first, last int) map[string]int {
	return map[string]int{
		"just below": first - 1, "just above": last + 1, "the least": math.MinInt, "endless": math.MaxInt,
		"far below": -1 << 32, "far above": 1 << 32,
	}
}

// The tests know what is so by the words of the document, which are tried truth by truth.

func rollOf(c api.Counter) int { return c.Last - c.First - c.Void }

// sum returns all numbers together.
func sum(l []int) int {
	n := 0
	for _, x := range l {
		n += x
	}
	return n
}

// moneyFor returns the prices of all tickets together.
func moneyFor(prices, sold []int) int {
	n := 0
	for show, x := range sold {
		n += prices[show] * x
	}
	return n
}

// missingIn returns by how much the cash of a till is less than it should be if it sold some tickets.
func missingIn(v api.Evening, till int, sold []int) int {
	c := v.Counters[till]
	return c.Float + moneyFor(v.Prices, sold) - c.Cash
}

// flawsIn returns the flaws of a till if it sold some tickets.
func flawsIn(v api.Evening, till int, sold []int) int {
	flaws := 0
	if !slices.Equal(sold, v.Counters[till].Sold) {
		flaws++
	}
	if missingIn(v, till, sold) != 0 {
		flaws++
	}
	return flaws
}

// allFlaws returns the flaws of all tills in a truth.
func allFlaws(v api.Evening, truth [][]int) int {
	flaws := 0
	for till, sold := range truth {
		flaws += flawsIn(v, till, sold)
	}
	return flaws
}

// isTruth tells whether some tickets of all tills are a truth.
func isTruth(v api.Evening, sold [][]int) bool {
	if len(sold) != len(v.Counters) {
		return false
	}
	for till, l := range sold {
		if len(l) != len(v.Prices) || sum(l) != rollOf(v.Counters[till]) || slices.ContainsFunc(l, func(n int) bool { return n < 0 }) {
			return false
		}
	}
	return slices.Equal(allSold(v, sold), v.Seats)
}

// allSold returns for each show the tickets of all tills.
func allSold(v api.Evening, sold [][]int) []int {
	all := make([]int, len(v.Prices))
	for _, l := range sold {
		for show, n := range l {
			all[show] += n
		}
	}
	return all
}

// eachSplit calls a function with all lists of numbers, 0 or more, that are together as many as said.
func eachSplit(together, length int, do func(l []int)) {
	if length == 1 {
		do([]int{together})
		return
	}
	for n := range together + 1 {
		eachSplit(together-n, length-1, func(l []int) { do(append([]int{n}, l...)) })
	}
}

// truthsBy are all truths of an evening.
func truthsBy(v api.Evening) [][][]int {
	var all [][][]int
	var sell func(sold [][]int)
	sell = func(sold [][]int) {
		if len(sold) == len(v.Counters) {
			if isTruth(v, sold) {
				all = append(all, slices.Clone(sold))
			}
			return
		}
		eachSplit(rollOf(v.Counters[len(sold)]), len(v.Prices), func(l []int) { sell(append(slices.Clip(sold), l)) })
	}
	sell(nil)
	return all
}

// likelyBy are those of some truths that have the fewest flaws, and how many they have.
func likelyBy(v api.Evening, all [][][]int) (likely [][][]int, fewest int) {
	fewest = math.MaxInt
	for _, truth := range all {
		fewest = min(fewest, allFlaws(v, truth))
	}
	for _, truth := range all {
		if allFlaws(v, truth) == fewest {
			likely = append(likely, truth)
		}
	}
	return likely, fewest
}

// blamedBy returns the tills that have a flaw in each of some truths, and those that have one in some.
func blamedBy(v api.Evening, likely [][][]int) (guilty, suspects []int) {
	for till := range v.Counters {
		often := 0
		for _, truth := range likely {
			if flawsIn(v, till, truth[till]) > 0 {
				often++
			}
		}
		if often == len(likely) {
			guilty = append(guilty, till)
		}
		if often > 0 {
			suspects = append(suspects, till)
		}
	}
	return guilty, suspects
}

// boundsBy returns the least and the greatest number that some truths have.
func boundsBy(all [][][]int, number func(truth [][]int) int) api.Span {
	s := span(math.MaxInt, math.MinInt)
	for _, truth := range all {
		s = span(min(s.Low, number(truth)), max(s.High, number(truth)))
	}
	return s
}

// partBy is a thing that can be asked whether it agrees.
type partBy struct {
	what, which int
	agrees      bool
}

// partsBy returns the first thing of an evening that does not agree.
func partsBy(v api.Evening) (what, which int) {
	var all []partBy
	var said [][]int
	for n, c := range v.Counters {
		said = append(said, c.Sold)
		all = append(all, partBy{api.PartRoll, n, sum(c.Sold) == rollOf(c)}, partBy{api.PartMoney, n, missingIn(v, n, c.Sold) == 0})
	}
	for show, n := range allSold(v, said) {
		all = append(all, partBy{api.PartSeats, show, n == v.Seats[show]})
	}
	for show, n := range v.Stubs {
		all = append(all, partBy{api.PartStubs, show, n <= v.Seats[show]})
	}
	for _, p := range all {
		if !p.agrees {
			return p.what, p.which
		}
	}
	return api.AgreeAll, -1
}

// Random evenings are ones in which everything agrees, but for a few things that went wrong.

// rightEvening is an evening in which everything agrees; no till sold more tickets than said for all shows.
func rightEvening(rnd *rand.Rand, most int) api.Evening {
	shows := 1 + rnd.Intn(api.MaxBills)
	v := api.Evening{Seats: make([]int, shows)}
	for range shows {
		v.Prices = append(v.Prices, 1+rnd.Intn(9))
	}
	for range 1 + rnd.Intn(api.MaxCounters) {
		c := till(rnd.Intn(900), 0, rnd.Intn(3), rnd.Intn(50), 0, make([]int, shows)...)
		for range rnd.Intn(most + 1) {
			c.Sold[rnd.Intn(shows)]++
		}
		for show, n := range c.Sold {
			v.Seats[show] += n
		}
		c.Last, c.Cash = c.First+c.Void+sum(c.Sold), c.Float+moneyFor(v.Prices, c.Sold)
		v.Counters = append(v.Counters, c)
	}
	for _, n := range v.Seats {
		v.Stubs = append(v.Stubs, rnd.Intn(n+1))
	}
	return v
}

// goWrong lets one thing of an evening go wrong, if it can; mostly such that there is a truth still.
func goWrong(rnd *rand.Rand, v *api.Evening) {
	show, other := rnd.Intn(len(v.Prices)), rnd.Intn(len(v.Prices))
	c := &v.Counters[rnd.Intn(len(v.Counters))]
	switch n := rnd.Intn(20); {
	case n < 7 && c.Sold[show] > 0:
		c.Sold[show]--
		c.Sold[other]++
	case n < 10:
		c.Cash = max(0, c.Cash-1-rnd.Intn(9))
	case n < 12:
		c.Cash = max(0, c.Cash+v.Prices[show]-v.Prices[other])
	case n < 14:
		c.Cash += 1 + rnd.Intn(9)
	case n < 16 && v.Seats[show] > 0:
		v.Seats[show]--
		v.Seats[other]++
	case n == 16:
		c.Sold[show] = rnd.Intn(5)
	case n == 17:
		v.Stubs[show]++
	case n == 18:
		v.Stubs[show] = v.Seats[show] + rnd.Intn(2)
	case n == 19 && rnd.Intn(3) == 0 && rollOf(*c) > 0:
		c.Void++
	}
}

func randomEvening(rnd *rand.Rand, most int) api.Evening {
	v := rightEvening(rnd, most)
	for range rnd.Intn(5) {
		goWrong(rnd, &v)
	}
	return v
}

// eachEvening calls a function with random evenings.
func eachEvening(seed int64, times, most int, do func(rnd *rand.Rand, v api.Evening)) {
	rnd := rand.New(rand.NewSource(seed))
	for range times {
		do(rnd, randomEvening(rnd, most))
	}
}
