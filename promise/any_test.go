package promise_test

import (
	"math"
	"math/rand"
	"slices"
	"testing"

	"bijou/api"
	"bijou/promise"
)

// P1 and R4: no call changes its argument, or shares memory with it or with another result.
func TestMemory(t *testing.T) {
	rnd := rand.New(rand.NewSource(1))
	for i, c := range sound() {
		plan, l := anyPlan(rnd, c), randomReports(rnd, c, 10)
		before, planned, reported := clone(c), clonePlan(plan), slices.Clone(l)
		results := allResults(c, plan, l)
		was := clonePlan(results)
		for _, other := range allResults(c, plan, l) {
			spoil(other)
		}
		if !slices.EqualFunc(results, was, slices.Equal) {
			t.Errorf("%d: %v was changed to %v", i, was, results)
		}
		promise.Check(c)
		promise.Most(c)
		promise.Still(c, l, 2)
		if !equal(c, before) || !slices.EqualFunc(plan, planned, slices.Equal) || !slices.Equal(l, reported) {
			t.Errorf("%d: %v was changed to %v, %v to %v, %v to %v", i, before, c, planned, plan, reported, l)
		}
		if again := allResults(c, plan, l); !slices.EqualFunc(again, was, slices.Equal) {
			t.Errorf("%d: the results are %v, then %v", i, was, again)
		}
	}
}

// allResults returns all slices that the calls return.
func allResults(c api.Campaign, plan [][]int, l []api.Ran) [][]int {
	counts, _, _ := promise.Counts(c, plan)
	best, _ := promise.Plan(c)
	proof, _ := promise.Proof(c)
	return append([][]int{counts, proof, owedOf(c, l)}, best...)
}

func clonePlan(plan [][]int) [][]int {
	var l [][]int
	for _, spots := range plan {
		l = append(l, slices.Clone(spots))
	}
	return l
}

// spoil overwrites what a call returned, and what may lie behind it.
func spoil(l []int) {
	l = l[:cap(l)]
	for i := range l {
		l[i] = 77
	}
}

// P1 and R4: the lists of one plan share no memory.
func TestMemoryOfPlan(t *testing.T) {
	plan, _ := promise.Plan(full())
	for showing := range plan {
		spoil(plan[showing])
		for other, l := range plan[showing+1:] {
			if slices.Contains(l, 77) {
				t.Fatalf("the showings %d and %d share memory", showing, showing+1+other)
			}
		}
	}
}

// R3: nil and empty slices are the same.
func TestNilAndEmpty(t *testing.T) {
	bare := api.Campaign{}
	empty := api.Campaign{Showings: []api.Showing{}, Promises: []api.Promise{}}
	for _, c := range []api.Campaign{bare, empty} {
		checkMost(t, "nothing", c, 0)
		for _, plan := range [][][]int{nil, {}} {
			checkCounts(t, "nothing", c, plan, nil, 0)
		}
		for _, l := range [][]api.Ran{nil, {}} {
			checkOwed(t, "nothing", c, l, nil, 0)
			checkStill(t, "nothing", c, l, 0, 0)
			checkOwed(t, "no reports", exampleC(), l, []int{2, 2, 1}, 0)
			checkStill(t, "no reports", exampleC(), l, 0, 4)
		}
	}
	checkCounts(t, "nil and empty lists", exampleC(), [][]int{nil, {}, nil}, []int{0, 0, 0}, 0)
}

// odd returns a number, or sometimes one that cannot be.
func odd(rnd *rand.Rand, n int) int {
	if rnd.Intn(150) == 0 {
		return []int{math.MinInt, math.MaxInt, -1, 10, 100, 7, 1 << 32}[rnd.Intn(7)]
	}
	return n
}

// anyCampaign is a random campaign, some numbers of which may be odd.
func anyCampaign(rnd *rand.Rand) api.Campaign {
	c := randomCampaign(rnd, 9, 6)
	for n, s := range c.Showings {
		c.Showings[n] = showing(odd(rnd, s.Day), odd(rnd, s.Kind), odd(rnd, s.Room))
	}
	for n, p := range c.Promises {
		c.Promises[n] = spot(odd(rnd, p.Spot), odd(rnd, p.Times), odd(rnd, p.Kinds.Low), odd(rnd, p.Kinds.High), odd(rnd, p.From), odd(rnd, p.To))
	}
	return c
}

// P1: with any numbers at all every call returns, and an error comes with zero values.
func TestAnyArguments(t *testing.T) {
	rnd := rand.New(rand.NewSource(4))
	sound := 0
	for range 10000 {
		c := anyCampaign(rnd)
		var plan [][]int
		for range odd(rnd, len(c.Showings)) % 20 {
			plan = append(plan, []int{odd(rnd, rnd.Intn(4)), odd(rnd, 4)}[:rnd.Intn(3)])
		}
		l := randomReports(rnd, c, 10)
		for n, r := range l {
			l[n] = ran(odd(rnd, r.Id), odd(rnd, r.Showing), odd(rnd, r.Spot))
		}
		day := odd(rnd, rnd.Intn(5))
		if e := promise.Check(c); e != api.OK {
			checkErrors(t, "any campaign", c, plan, l, day)
			continue
		}
		sound++
		checkAnyCalls(t, c, plan, l, day)
	}
	if sound < 3000 || sound > 8000 {
		t.Errorf("%d of 10000 campaigns are sound", sound)
	}
}

func checkAnyCalls(t *testing.T, c api.Campaign, plan [][]int, l []api.Ran, day int) {
	t.Helper()
	if isPlan(c, plan) {
		checkCounts(t, "any plan", c, plan, countsBy(c, plan), worthBy(c, plan))
	} else {
		checkCountsError(t, "any plan", c, plan, api.ErrPlan)
	}
	checkMost(t, "any campaign", c, leastLimit(c))
	if !areReports(c, l) {
		checkOwedError(t, "any reports", c, l, api.ErrRan)
		checkStillError(t, "any reports", c, l, day, api.ErrRan)
		return
	}
	owed, extra := wanted(c, l)
	checkOwed(t, "any reports", c, l, owed, extra)
	if day < 0 || day > api.MaxDate {
		checkStillError(t, "any day", c, l, day, api.ErrArg)
	} else if n, e := promise.Still(c, l, day); n < 0 || n > sum(owed) || e != api.OK {
		t.Errorf("Still of %v and %v from %d = %d, %d", c, l, day, n, e)
	}
}

// areReports tells whether reports are valid.
func areReports(c api.Campaign, l []api.Ran) bool {
	for _, r := range l {
		if min(r.Id, r.Showing, r.Spot) < 0 || r.Id > 99 || r.Showing >= len(c.Showings) || r.Spot > 99 {
			return false
		}
		for _, other := range l {
			if r.Id == other.Id && (r.Showing != other.Showing || r.Spot != other.Spot) {
				return false
			}
		}
	}
	return len(l) <= 30
}
