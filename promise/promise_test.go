package promise_test

import (
	"slices"
	"testing"

	"bijou/api"
	"bijou/promise"
)

// P7.1: Check returns ErrCampaign unless a campaign is valid.
func TestCheck(t *testing.T) {
	for name, change := range faulty() {
		if e := promise.Check(with(exampleC(), change)); e != api.ErrCampaign {
			t.Errorf("%s: Check = %d", name, e)
		}
	}
	for i, c := range sound() {
		if e := promise.Check(c); e != api.OK {
			t.Errorf("sound campaign %d: Check = %d", i, e)
		}
	}
}

// P1: every function returns ErrCampaign before any other error, with zero values.
func TestErrorsOfCampaigns(t *testing.T) {
	for name, change := range faulty() {
		c := with(exampleC(), change)
		checkErrors(t, name, c, [][]int{{0}, {1, 2}, {0}}, exampleL(), 0)
		checkErrors(t, name, c, nil, []api.Ran{ran(-1, 0, 40)}, 0)
		checkErrors(t, name, c, [][]int{{9}}, nil, -1)
		checkErrors(t, name, c, nil, manyReports(31), 100)
	}
}

// checkErrors tells whether all calls return ErrCampaign with zero values.
func checkErrors(t *testing.T, name string, c api.Campaign, plan [][]int, l []api.Ran, day int) {
	t.Helper()
	checkCountsError(t, name, c, plan, api.ErrCampaign)
	if n, e := promise.Most(c); n != 0 || e != api.ErrCampaign {
		t.Errorf("%s: Most = %d, %d", name, n, e)
	}
	if l, e := promise.Plan(c); len(l) != 0 || e != api.ErrCampaign {
		t.Errorf("%s: Plan = %v, %d", name, l, e)
	}
	if l, e := promise.Proof(c); len(l) != 0 || e != api.ErrCampaign {
		t.Errorf("%s: Proof = %v, %d", name, l, e)
	}
	checkOwedError(t, name, c, l, api.ErrCampaign)
	checkStillError(t, name, c, l, day, api.ErrCampaign)
}

func checkCountsError(t *testing.T, name string, c api.Campaign, plan [][]int, want api.Errno) {
	t.Helper()
	if l, n, e := promise.Counts(c, plan); len(l) != 0 || n != 0 || e != want {
		t.Errorf("%s: Counts = %v, %d, %d, not error %d", name, l, n, e, want)
	}
}

func checkOwedError(t *testing.T, name string, c api.Campaign, l []api.Ran, want api.Errno) {
	t.Helper()
	if owed, extra, e := promise.Owed(c, l); len(owed) != 0 || extra != 0 || e != want {
		t.Errorf("%s: Owed = %v, %d, %d, not error %d", name, owed, extra, e, want)
	}
}

func checkStillError(t *testing.T, name string, c api.Campaign, l []api.Ran, day int, want api.Errno) {
	t.Helper()
	if n, e := promise.Still(c, l, day); n != 0 || e != want {
		t.Errorf("%s: Still from %d = %d, %d, not error %d", name, day, n, e, want)
	}
}

// P7.2 and P1: a plan that is none of the campaign is ErrPlan.
func TestErrorsOfPlans(t *testing.T) {
	for name, plan := range faultyPlans() {
		checkCountsError(t, name, exampleC(), plan, api.ErrPlan)
	}
	checkCountsError(t, "a spot and no places", with(exampleC(), func(c *api.Campaign) { c.Showings[0].Room = 0 }), [][]int{{0}, {}, {}}, api.ErrPlan)
	checkCountsError(t, "a spot that is not promised", with(exampleC(), func(c *api.Campaign) { c.Promises = nil }), [][]int{{0}, {}, {}}, api.ErrPlan)
	checkCountsError(t, "a day before From", with(exampleC(), func(c *api.Campaign) { c.Promises[1].From = 2 }), [][]int{{}, {1}, {}}, api.ErrPlan)
	checkCountsError(t, "a plan without showings", api.Campaign{}, [][]int{nil}, api.ErrPlan)
}

// P7.6, P7.7 and P1: reports that are not as described, or clash, are ErrRan, before any error of a day.
func TestErrorsOfReports(t *testing.T) {
	for name, l := range faultyReports() {
		checkOwedError(t, name, exampleC(), l, api.ErrRan)
		for _, day := range []int{0, 99, -1, 100} {
			checkStillError(t, name, exampleC(), l, day, api.ErrRan)
		}
	}
	checkOwedError(t, "a showing 0 of none", api.Campaign{}, []api.Ran{{}}, api.ErrRan)
	checkStillError(t, "a showing 0 of none", api.Campaign{}, []api.Ran{{}}, 0, api.ErrRan)
	for name, l := range map[string][]api.Ran{
		"30 reports":       manyReports(30),
		"30 equal reports": slices.Repeat(exampleL()[:1], 30),
		"at all limits":    {ran(99, 2, 99), ran(0, 0, 0)},
	} {
		if _, _, e := promise.Owed(exampleC(), l); e != api.OK {
			t.Errorf("%s: Owed: %d", name, e)
		}
		if _, e := promise.Still(exampleC(), l, 0); e != api.OK {
			t.Errorf("%s: Still: %d", name, e)
		}
	}
}

// P7.7 and P1: a day that is not from 0 to MaxDate is ErrArg.
func TestErrorsOfDays(t *testing.T) {
	for _, c := range sound() {
		for how, day := range outside(0, 99) {
			checkStillError(t, how, c, nil, day, api.ErrArg)
		}
		for _, day := range []int{0, 99} {
			if _, e := promise.Still(c, nil, day); e != api.OK {
				t.Errorf("Still of %v from %d: %d", c, day, e)
			}
		}
	}
}

// The chapter's section Examples.
func TestExamples(t *testing.T) {
	checkCounts(t, "C", exampleC(), [][]int{{0}, {1, 2}, {0}}, []int{2, 1, 1}, 4)
	checkMost(t, "C", exampleC(), 4)
	checkMost(t, "D", exampleD(), 4)
	checkOwed(t, "C and L", exampleC(), exampleL(), []int{1, 2, 1}, 2)
	checkStill(t, "C and L", exampleC(), exampleL(), 0, 4)
	checkStill(t, "C and L", exampleC(), exampleL(), 2, 1)
}

func checkCounts(t *testing.T, name string, c api.Campaign, plan [][]int, counts []int, worth int) {
	t.Helper()
	if l, n, e := promise.Counts(c, plan); !slices.Equal(l, counts) || n != worth || e != api.OK {
		t.Errorf("%s: Counts of %v by %v = %v, %d, %d, not %v, %d", name, c, plan, l, n, e, counts, worth)
	}
}

// checkMost tells whether Most is as it should be, Plan is a plan with this worth, and Proof shows that there is no greater one.
func checkMost(t *testing.T, name string, c api.Campaign, want int) {
	t.Helper()
	if n, e := promise.Most(c); n != want || e != api.OK {
		t.Errorf("%s: Most of %v = %d, %d, not %d", name, c, n, e, want)
	}
	plan, e := promise.Plan(c)
	if e != api.OK || !isPlan(c, plan) {
		t.Errorf("%s: Plan of %v = %v, %d", name, c, plan, e)
		return
	}
	if n := worthBy(c, plan); n != want {
		t.Errorf("%s: Plan of %v = %v, which is worth %d, not %d", name, c, plan, n, want)
	}
	proof, e := promise.Proof(c)
	strange := func(set []int) bool { return slices.Equal(set, proof) }
	if e != api.OK || !slices.ContainsFunc(subsets(len(c.Promises)), strange) {
		t.Errorf("%s: Proof of %v = %v, %d", name, c, proof, e)
		return
	}
	if n := limit(c, proof); n != want {
		t.Errorf("%s: Proof of %v = %v, which shows %d, not %d", name, c, proof, n, want)
	}
}

func checkOwed(t *testing.T, name string, c api.Campaign, l []api.Ran, owed []int, extra int) {
	t.Helper()
	if got, n, e := promise.Owed(c, l); !slices.Equal(got, owed) || n != extra || e != api.OK {
		t.Errorf("%s: Owed of %v and %v = %v, %d, %d, not %v, %d", name, c, l, got, n, e, owed, extra)
	}
}

func checkStill(t *testing.T, name string, c api.Campaign, l []api.Ran, day, want int) {
	t.Helper()
	if n, e := promise.Still(c, l, day); n != want || e != api.OK {
		t.Errorf("%s: Still of %v and %v from %d = %d, %d, not %d", name, c, l, day, n, e, want)
	}
}

// P7.2: Counts counts the showings of each promise, and its worth has no more than Times.
func TestCounts(t *testing.T) {
	all := slices.Repeat([][]int{{0, 1, 2, 3, 4, 5}}, api.MaxShowings)
	for name, x := range map[string]struct {
		c      api.Campaign
		plan   [][]int
		counts []int
		worth  int
	}{
		"nothing":                {exampleC(), emptyPlan(exampleC()), []int{0, 0, 0}, 0},
		"no showings":            {with(exampleC(), func(c *api.Campaign) { c.Showings = nil }), nil, []int{0, 0, 0}, 0},
		"no promises":            {with(exampleC(), func(c *api.Campaign) { c.Promises = nil }), [][]int{{}, nil, {}}, nil, 0},
		"places that are left":   {exampleC(), [][]int{{1}, {2}, {}}, []int{0, 1, 1}, 2},
		"as many as Room":        {exampleC(), [][]int{{1}, {1, 2}, {0}}, []int{1, 2, 1}, 4},
		"more than Times":        {with(exampleC(), func(c *api.Campaign) { c.Promises[1].Times = 1 }), [][]int{{1}, {1, 2}, {0}}, []int{1, 2, 1}, 3},
		"more than Times, twice": {with(exampleC(), func(c *api.Campaign) { c.Promises[0].Times, c.Promises[1].Times = 0, 1 }), [][]int{{1}, {1, 2}, {0}}, []int{1, 2, 1}, 2},
		"the first kind and day": {with(exampleC(), func(c *api.Campaign) { c.Promises[0] = spot(40, 1, 5, 9, 1, 1) }), [][]int{{}, {0}, {}}, []int{1, 0, 0}, 1},
		"the last kind and day":  {with(exampleC(), func(c *api.Campaign) { c.Promises[0] = spot(40, 1, 0, 5, 0, 1) }), [][]int{{}, {0}, {}}, []int{1, 0, 0}, 1},
		"all limits":             {full(), all, []int{8, 8, 8, 8, 8, 8}, 48},
		"all limits of 7 times":  {with(full(), func(c *api.Campaign) { c.Promises[5].Times = 7 }), all, []int{8, 8, 8, 8, 8, 8}, 47},
	} {
		checkCounts(t, name, x.c, x.plan, x.counts, x.worth)
	}
}

// small returns a campaign of showings on the days 0, 1 and so on, each of its kind and with one place.
func small(kinds ...int) api.Campaign {
	var c api.Campaign
	for day, kind := range kinds {
		c.Showings = append(c.Showings, showing(day, kind, 1))
	}
	return c
}

// promising returns a campaign with some promises, each of a number of times before films of some kinds, from low to high.
func promising(c api.Campaign, times, low, high int) api.Campaign {
	return with(c, func(c *api.Campaign) {
		c.Promises = append(c.Promises, spot(len(c.Promises), times, low, high, 0, 99))
	})
}

// P7.3, P7.4 and P7.5: Most is as great as it can be.
func TestMost(t *testing.T) {
	one := func(change func(c *api.Campaign)) api.Campaign { return with(exampleC(), change) }
	pairwise := promising(promising(promising(promising(small(0, 1, 2, 3), 1, 0, 1), 1, 1, 2), 1, 2, 3), 1, 0, 0)
	for name, x := range map[string]struct {
		c    api.Campaign
		want int
	}{
		"nothing at all":                {api.Campaign{}, 0},
		"no showings":                   {one(func(c *api.Campaign) { c.Showings = nil }), 0},
		"no promises":                   {one(func(c *api.Campaign) { c.Promises = nil }), 0},
		"no places":                     {one(func(c *api.Campaign) { c.Showings = make([]api.Showing, 8) }), 0},
		"no times":                      {promising(promising(small(0, 0), 0, 0, 9), 0, 0, 9), 0},
		"a place for each":              {promising(promising(small(0, 1), 1, 0, 0), 1, 1, 1), 2},
		"one place for two":             {promising(promising(small(0), 1, 0, 9), 1, 0, 9), 1},
		"two places for one":            {promising(small(0, 0), 1, 0, 9), 1},
		"once in a showing":             {with(promising(small(0), 8, 0, 9), func(c *api.Campaign) { c.Showings[0].Room = 6 }), 1},
		"a kind below":                  {promising(small(2, 2), 2, 3, 5), 0},
		"a kind above":                  {promising(small(6, 6), 2, 3, 5), 0},
		"the first and the last kind":   {promising(small(2, 3, 5, 6), 4, 3, 5), 2},
		"the first and the last day":    {with(small(0, 0, 0, 0), func(c *api.Campaign) { c.Promises = []api.Promise{spot(1, 4, 0, 0, 1, 2)} }), 2},
		"one that must move":            {promising(promising(small(0, 1), 1, 0, 1), 1, 0, 0), 2},
		"one that must move, at last":   {promising(promising(small(1, 0), 1, 0, 1), 1, 1, 1), 2},
		"three that must move":          {pairwise, 4},
		"three that must move, in vain": {promising(pairwise, 2, 0, 9), 4},
		"both must move":                {promising(promising(small(0, 0, 1, 1), 2, 0, 1), 2, 0, 0), 4},
		"who has more must not have":    {promising(promising(promising(small(0, 0, 0), 3, 0, 0), 1, 0, 0), 1, 0, 0), 3},
		"all limits":                    {full(), 48},
		"all limits of 5 places":        {with(full(), func(c *api.Campaign) { eachRoom(c, 5) }), 40},
		"all limits of 7 times":         {with(full(), func(c *api.Campaign) { eachTimes(c, 7) }), 42},
		"all limits of 7 showings":      {with(full(), func(c *api.Campaign) { c.Showings = c.Showings[1:] }), 42},
		"places and times in balance":   {with(full(), func(c *api.Campaign) { eachRoom(c, 3); eachTimes(c, 4) }), 24},
	} {
		checkMost(t, name, x.c, x.want)
		checkStill(t, name, x.c, nil, 0, x.want)
	}
}

func eachRoom(c *api.Campaign, room int) {
	for n := range c.Showings {
		c.Showings[n].Room = room
	}
}

func eachTimes(c *api.Campaign, times int) {
	for n := range c.Promises {
		c.Promises[n].Times = times
	}
}

// P7.6: reports count once for a promise that fits, all others are extra.
func TestOwed(t *testing.T) {
	once := with(exampleC(), func(c *api.Campaign) { c.Promises[1].Times = 1 })
	for name, x := range map[string]struct {
		c     api.Campaign
		l     []api.Ran
		owed  []int
		extra int
	}{
		"no reports":                      {exampleC(), nil, []int{2, 2, 1}, 0},
		"no showings":                     {with(exampleC(), func(c *api.Campaign) { c.Showings = nil }), nil, []int{2, 2, 1}, 0},
		"no promises":                     {with(exampleC(), func(c *api.Campaign) { c.Promises = nil }), exampleL(), nil, 3},
		"one report":                      {exampleC(), exampleL()[:1], []int{1, 2, 1}, 0},
		"the same report":                 {exampleC(), slices.Repeat(exampleL()[:1], 30), []int{1, 2, 1}, 0},
		"two reports of the same":         {exampleC(), exampleL()[:2], []int{1, 2, 1}, 0},
		"all that was promised":           {exampleC(), []api.Ran{ran(0, 0, 40), ran(1, 2, 40), ran(2, 0, 41), ran(3, 1, 41), ran(4, 1, 42)}, []int{0, 0, 0}, 0},
		"more than Room":                  {exampleC(), []api.Ran{ran(0, 0, 40), ran(1, 0, 41)}, []int{1, 1, 1}, 0},
		"a showing without places":        {with(exampleC(), func(c *api.Campaign) { c.Showings[0].Room = 0 }), exampleL()[:1], []int{1, 2, 1}, 0},
		"another kind":                    {exampleC(), []api.Ran{ran(0, 1, 40)}, []int{2, 2, 1}, 1},
		"another day":                     {exampleC(), []api.Ran{ran(0, 2, 41)}, []int{2, 2, 1}, 1},
		"another kind, twice":             {exampleC(), []api.Ran{ran(0, 1, 40), ran(1, 1, 40)}, []int{2, 2, 1}, 1},
		"other kinds of two":              {exampleC(), []api.Ran{ran(0, 0, 42), ran(1, 1, 40)}, []int{2, 2, 1}, 2},
		"other kinds of one spot":         {exampleC(), []api.Ran{ran(0, 0, 42), ran(1, 2, 42)}, []int{2, 2, 1}, 2},
		"a spot that nobody asked":        {exampleC(), []api.Ran{ran(0, 0, 7)}, []int{2, 2, 1}, 1},
		"a spot that nobody asked, twice": {exampleC(), []api.Ran{ran(0, 0, 7), ran(1, 0, 7)}, []int{2, 2, 1}, 1},
		"two spots that nobody asked":     {exampleC(), []api.Ran{ran(0, 0, 7), ran(1, 0, 8), ran(2, 1, 7)}, []int{2, 2, 1}, 3},
		"more than Times":                 {once, []api.Ran{ran(0, 0, 41), ran(1, 1, 41)}, []int{2, 0, 1}, 1},
		"more than Times, twice":          {once, []api.Ran{ran(0, 0, 41), ran(1, 1, 41), ran(2, 1, 41)}, []int{2, 0, 1}, 1},
		"no Times at all":                 {with(exampleC(), func(c *api.Campaign) { c.Promises[1].Times = 0 }), []api.Ran{ran(0, 0, 41), ran(1, 1, 41)}, []int{2, 0, 1}, 2},
		"spots by their numbers":          {exampleC(), []api.Ran{ran(0, 0, 0), ran(1, 0, 1), ran(2, 0, 2)}, []int{2, 2, 1}, 3},
		"all limits":                      {full(), fullReports(), []int{0, 0, 0, 2, 8, 8}, 0},
		"all limits of 7 times":           {with(full(), func(c *api.Campaign) { eachTimes(c, 7) }), fullReports(), []int{0, 0, 0, 1, 7, 7}, 3},
	} {
		checkOwed(t, name, x.c, x.l, x.owed, x.extra)
	}
}

// P7.7: Still gives what is owed to showings from a day on that had not the spot.
func TestStill(t *testing.T) {
	twice := promising(small(0, 0), 2, 0, 0)
	for name, x := range map[string]struct {
		c    api.Campaign
		l    []api.Ran
		day  int
		want int
	}{
		"no reports, on the first day":    {exampleC(), nil, 1, 4},
		"no reports, on the day between":  {exampleC(), nil, 2, 1},
		"no reports, on the last day":     {exampleC(), nil, 3, 1},
		"no reports, after the last day":  {exampleC(), nil, 4, 0},
		"no reports, on the last of all":  {exampleC(), nil, 99, 0},
		"the last of all days":            {full(), nil, 99, 48},
		"what is owed only":               {twice, []api.Ran{ran(0, 0, 0)}, 0, 1},
		"what is not before the day":      {twice, []api.Ran{ran(0, 0, 0)}, 1, 1},
		"what had the spot already":       {twice, []api.Ran{ran(0, 1, 0)}, 1, 0},
		"what had the spot, from 0":       {twice, []api.Ran{ran(0, 1, 0)}, 0, 1},
		"places that reports took":        {promising(promising(small(0), 1, 0, 0), 1, 0, 0), []api.Ran{ran(0, 0, 0)}, 0, 1},
		"places that another spot took":   {promising(small(0), 1, 0, 0), []api.Ran{ran(0, 0, 7)}, 0, 1},
		"a report that does not count":    {with(exampleC(), func(c *api.Campaign) { c.Promises = c.Promises[:1] }), []api.Ran{ran(0, 1, 40)}, 0, 2},
		"nothing owed":                    {twice, []api.Ran{ran(0, 0, 0), ran(1, 1, 0)}, 0, 0},
		"more shown than owed":            {promising(small(0, 0, 0), 1, 0, 0), []api.Ran{ran(0, 0, 0), ran(1, 1, 0)}, 0, 0},
		"more shown than owed, and other": {promising(promising(small(0, 0, 0), 1, 0, 0), 3, 0, 0), []api.Ran{ran(0, 0, 0), ran(1, 1, 0)}, 0, 3},
		"all limits":                      {full(), fullReports(), 0, 18},
		"all limits of 1 place":           {with(full(), func(c *api.Campaign) { eachRoom(c, 1) }), fullReports(), 99, 8},
	} {
		checkStill(t, name, x.c, x.l, x.day, x.want)
	}
}
