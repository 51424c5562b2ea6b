package promise_test

import (
	"math/rand"
	"slices"
	"testing"

	"bijou/api"
	"bijou/promise"
	"bijou/week"
)

// leastLimit returns the least that a set of promises shows.
func leastLimit(c api.Campaign) int {
	least := sum(timesOf(c))
	for _, set := range subsets(len(c.Promises)) {
		least = min(least, limit(c, set))
	}
	return least
}

// P7.2: Counts is what the words of the document say, of each plan, and of lists that are none.
func TestCountsByWords(t *testing.T) {
	plans, others := 0, 0
	eachCampaign(2, 2000, 5, 5, func(rnd *rand.Rand, c api.Campaign) {
		plan := anyPlan(rnd, c)
		checkCounts(t, "random", c, plan, countsBy(c, plan), worthBy(c, plan))
		for showing := range plan {
			plan[showing] = subsets(len(c.Promises))[rnd.Intn(1<<len(c.Promises))]
		}
		if isPlan(c, plan) {
			plans++
			checkCounts(t, "random", c, plan, countsBy(c, plan), worthBy(c, plan))
		} else {
			others++
			checkCountsError(t, "random", c, plan, api.ErrPlan)
		}
	})
	if plans < 200 || others < 200 {
		t.Errorf("%d random lists were plans, %d were not", plans, others)
	}
}

// P7.8 (the proof): for each set of promises and each plan, the worth is at most the Times of all others and the places of the set.
func TestProof(t *testing.T) {
	same, less := 0, 0
	eachCampaign(8, 1000, 8, 6, func(rnd *rand.Rand, c api.Campaign) {
		best, _ := promise.Plan(c)
		for _, plan := range [][][]int{best, anyPlan(rnd, c), emptyPlan(c)} {
			_, worth, e := promise.Counts(c, plan)
			if e != api.OK {
				t.Errorf("Counts of %v by %v: %d", c, plan, e)
			}
			for _, set := range subsets(len(c.Promises)) {
				switch n := limit(c, set); {
				case worth > n:
					t.Errorf("%v of %v is worth %d, but %v shows that it is at most %d", plan, c, worth, set, n)
				case worth == n:
					same++
				default:
					less++
				}
			}
		}
	})
	if same < 1000 || less < 1000 {
		t.Errorf("%d times the worth was as great as it could be, %d times less", same, less)
	}
}

// P7.3, P7.4, P7.5 and P7.9 (the best plan): no plan has a greater worth than Most, and all promises can be kept just if Most is the sum of their Times.
func TestBestPlan(t *testing.T) {
	all, some := 0, 0
	eachCampaign(9, 1000, 4, 4, func(_ *rand.Rand, c api.Campaign) {
		most, kept := 0, false
		eachPlan(c, func(plan [][]int) {
			counts, worth, e := promise.Counts(c, plan)
			if e != api.OK {
				t.Errorf("Counts of %v by %v: %d", c, plan, e)
			}
			most = max(most, worth)
			kept = kept || !slices.ContainsFunc(timesLeft(c, counts), func(n int) bool { return n > 0 })
		})
		checkMost(t, "random", c, most)
		if kept != (mostOf(c) == sum(timesOf(c))) {
			t.Errorf("Most of %v is %d, but it is %t that all promises can be kept", c, mostOf(c), kept)
		}
		if kept {
			all++
		} else {
			some++
		}
	})
	if all < 100 || some < 100 {
		t.Errorf("%d times all promises could be kept, %d times not all", all, some)
	}
}

// timesLeft returns for each promise its Times less its count.
func timesLeft(c api.Campaign, counts []int) []int {
	l := timesOf(c)
	for n := range l {
		l[n] -= counts[n]
	}
	return l
}

// P7.3, P7.4 and P7.5: large campaigns have a plan and a proof with the same number, which no plan can exceed.
func TestLargeCampaigns(t *testing.T) {
	tight, loose := 0, 0
	rnd := rand.New(rand.NewSource(3))
	for range 2000 {
		var c api.Campaign
		for range api.MaxShowings {
			c.Showings = append(c.Showings, randomShowing(rnd))
		}
		for n := range api.MaxPromises {
			c.Promises = append(c.Promises, randomPromise(rnd, n, 5))
		}
		least := leastLimit(c)
		checkMost(t, "large", c, least)
		if least < min(sum(timesOf(c)), limit(c, []int{0, 1, 2, 3, 4, 5})) {
			tight++
		} else {
			loose++
		}
	}
	if tight < 500 || loose < 100 {
		t.Errorf("%d times some of the promises were the proof, %d times all or none", tight, loose)
	}
}

// eased returns a campaign with more Room, one more showing, wider Kinds or more days.
func eased(rnd *rand.Rand, c api.Campaign) api.Campaign {
	return with(c, func(c *api.Campaign) {
		kind := rnd.Intn(4)
		if kind == 0 {
			c.Showings = append(c.Showings, randomShowing(rnd))
			return
		}
		if kind == 1 && len(c.Showings) > 0 {
			s := &c.Showings[rnd.Intn(len(c.Showings))]
			s.Room = min(s.Room+1, api.MaxRoom)
		}
		if len(c.Promises) == 0 {
			return
		}
		p := &c.Promises[rnd.Intn(len(c.Promises))]
		if kind == 2 {
			p.Kinds = span(max(0, p.Kinds.Low-rnd.Intn(2)), p.Kinds.High+rnd.Intn(2))
		}
		if kind == 3 {
			p.From, p.To = max(0, p.From-rnd.Intn(2)), p.To+rnd.Intn(2)
		}
	})
}

// P7.10 (more room): with more Room, one more showing, wider Kinds or more days Most is not less.
func TestMoreRoom(t *testing.T) {
	more, same := 0, 0
	eachCampaign(10, 3000, 7, 6, func(rnd *rand.Rand, c api.Campaign) {
		wider := eased(rnd, c)
		if e := promise.Check(wider); e != api.OK {
			t.Fatalf("%v is not valid: %d", wider, e)
		}
		switch before, after := mostOf(c), mostOf(wider); {
		case after < before:
			t.Errorf("Most of %v is %d, of %v %d", c, before, wider, after)
		case after > before:
			more++
		default:
			same++
		}
	})
	if more < 200 || same < 200 {
		t.Errorf("Most was %d times greater, %d times the same", more, same)
	}
}

// P7.10: with Times of one promise greater by 1 Most is greater by at most 1, and not less.
func TestMoreTimes(t *testing.T) {
	more, same := 0, 0
	eachCampaign(110, 2000, 7, 6, func(_ *rand.Rand, c api.Campaign) {
		for n := range c.Promises {
			longer := with(c, func(c *api.Campaign) { c.Promises[n].Times++ })
			switch mostOf(longer) - mostOf(c) {
			case 0:
				same++
			case 1:
				more++
			default:
				t.Errorf("Most of %v is %d, of %v %d", c, mostOf(c), longer, mostOf(longer))
			}
		}
	})
	if more < 200 || same < 200 {
		t.Errorf("Most was %d times greater, %d times the same", more, same)
	}
}

// P7.6: Owed is what the words of the document say.
func TestOwedByWords(t *testing.T) {
	less, others := 0, 0
	eachCampaign(6, 2000, 6, 5, func(rnd *rand.Rand, c api.Campaign) {
		l := randomReports(rnd, c, 30)
		owed, extra := wanted(c, l)
		checkOwed(t, "random", c, l, owed, extra)
		if sum(owed) < sum(timesOf(c)) {
			less++
		}
		if extra > 0 {
			others++
		}
	})
	if less < 500 || others < 500 {
		t.Errorf("%d times less was owed, %d times something else was shown", less, others)
	}
}

// P7.11 (reports): Owed does not depend on the order of reports, nor on how often one comes; with one more report nothing more is owed.
func TestReports(t *testing.T) {
	less := 0
	eachCampaign(11, 2000, 6, 5, func(rnd *rand.Rand, c api.Campaign) {
		l := randomReports(rnd, c, 6)
		owed, extra, _ := promise.Owed(c, l)
		mixed := append(slices.Clone(l), l...)
		rnd.Shuffle(len(mixed), func(i, j int) { mixed[i], mixed[j] = mixed[j], mixed[i] })
		checkOwed(t, "mixed", c, mixed, owed, extra)
		for day := range 5 {
			checkStill(t, "mixed", c, mixed, day, stillOf(c, l, day))
		}
		if len(c.Showings) == 0 {
			return
		}
		more := append(slices.Clone(l), randomReport(rnd, c, 50))
		for n, times := range owedOf(c, more) {
			if times > owed[n] {
				t.Errorf("Owed of %v and %v is %v, with one more report of %v %v", c, l, owed, more, owedOf(c, more))
			}
			if times < owed[n] {
				less++
			}
		}
	})
	if less < 100 {
		t.Errorf("only %d times one more report made less owed", less)
	}
}

// P7.7: Still is what trying each plan tells.
func TestStillByWords(t *testing.T) {
	some, none := 0, 0
	eachCampaign(7, 800, 4, 4, func(rnd *rand.Rand, c api.Campaign) {
		l, day := randomReports(rnd, c, 6), rnd.Intn(4)
		want := madeGood(c, l, day)
		checkStill(t, "random", c, l, day, want)
		if want > 0 {
			some++
		} else {
			none++
		}
	})
	if some < 100 || none < 100 {
		t.Errorf("%d times something could be made good, %d times nothing", some, none)
	}
}

// P7.12 (made good): Still is at most the sum of what is owed; on a later day it is not greater; without reports, on the day 0, it is Most.
func TestMadeGood(t *testing.T) {
	less, later := 0, 0
	eachCampaign(12, 2000, 8, 6, func(rnd *rand.Rand, c api.Campaign) {
		checkStill(t, "no reports", c, nil, 0, mostOf(c))
		l := randomReports(rnd, c, 15)
		owed := sum(owedOf(c, l))
		before := stillOf(c, l, 0)
		if before > owed {
			t.Errorf("Still of %v and %v is %d, but only %d are owed", c, l, before, owed)
		}
		if before < owed {
			less++
		}
		for day := 1; day < 6; day++ {
			after := stillOf(c, l, day)
			if after > before {
				t.Errorf("Still of %v and %v is %d on the day %d, but %d before", c, l, after, day, before)
			}
			if after < before {
				later++
			}
			before = after
		}
		if before != 0 {
			t.Errorf("Still of %v and %v is %d after the last day", c, l, before)
		}
	})
	if less < 200 || later < 200 {
		t.Errorf("Still was %d times less than owed, %d times less on a later day", less, later)
	}
}

// P0.3 (kept deals, kept promises): in the best week spots that are promised before the films of deals, as often as these ask, are all shown, if there are places enough.
func TestKeptDeals(t *testing.T) {
	shown := map[int]int{}
	rnd := rand.New(rand.NewSource(103))
	for range 3000 {
		w := randomWeek(rnd)
		p, e := week.Best(w)
		if e != api.OK {
			continue
		}
		c := api.Campaign{Showings: showingsOf(w, p)}
		for n, d := range w.Deals {
			c.Promises = append(c.Promises, spot(n, asks(d), d.Film, d.Film, d.From, d.To))
			shown[d.Kind] += asks(d)
		}
		checkMost(t, "a best week", c, sum(timesOf(c)))
	}
	if shown[api.Least] < 300 || shown[api.Clean] < 200 || shown[api.Every] < 200 {
		t.Errorf("spots were promised so often for each kind of deal: %v", shown)
	}
}

// randomWeek has at most as many deals as there are promises.
func randomWeek(rnd *rand.Rand) api.Week {
	w := api.Week{Days: 1 + rnd.Intn(2), Rooms: []int{100, 60}[:1+rnd.Intn(2)], Hours: 1 + rnd.Intn(2)}
	for range 1 + rnd.Intn(3) {
		w.Films = append(w.Films, api.Movie{Price: rnd.Intn(20), Crowd: []int{rnd.Intn(200), rnd.Intn(200)}[:w.Hours]})
	}
	for range rnd.Intn(api.MaxPromises + 1) {
		days, hours := randomSpan(rnd, w.Days), randomSpan(rnd, w.Hours)
		d := api.Deal{Kind: 1 + rnd.Intn(5), Film: rnd.Intn(len(w.Films)), From: days.Low, To: days.High, Early: hours.Low, Late: hours.High, Seats: 80 * rnd.Intn(2)}
		if d.Kind == api.Least || d.Kind == api.Most {
			d.Times = rnd.Intn(4)
		}
		w.Deals = append(w.Deals, d)
	}
	return w
}

// showingsOf returns the shows of a program, with the number of the film as their kind, and places enough.
func showingsOf(w api.Week, p []int) []api.Showing {
	var l []api.Showing
	for slot, film := range p {
		if film != api.Dark {
			l = append(l, showing(slot/(len(w.Rooms)*w.Hours), film, len(w.Deals)))
		}
	}
	return l
}

// asks returns how often a deal asks at least that its film is shown.
func asks(d api.Deal) int {
	switch d.Kind {
	case api.Least:
		return d.Times
	case api.Clean, api.Every:
		return (d.To - d.From + 1) * (d.Late - d.Early + 1)
	}
	return 0
}
