package share_test

import (
	"cmp"
	"math"
	"math/rand"
	"slices"

	"bijou/api"
	"bijou/share"
)

func takings(id, film, week, till, cents int) api.Report {
	return api.Report{Id: id, Kind: api.Takings, Film: film, Week: week, Till: till, Cents: cents}
}

func audit(id, film, week, cents int) api.Report {
	return api.Report{Id: id, Kind: api.Audited, Film: film, Week: week, Cents: cents}
}

func payment(film, cents int) api.Payment { return api.Payment{Film: film, Cents: cents} }

// account is one whose tax, net and house are those of the gross, the tax and the share.
func account(gross, tax, cents, rule int) api.Account {
	return api.Account{Gross: gross, Tax: tax, Net: gross - tax, Share: cents, House: gross - tax - cents, Rule: rule}
}

// exampleB are the books of the chapter's examples.
func exampleB() api.Books {
	return api.Books{
		Tax: 100,
		Contracts: []api.Contract{{
			Film: 5, First: 10, Last: 12, Steps: []int{600, 500}, Tiers: []api.Tier{{From: 20000, Mille: 700}},
			Nut: 8000, Over: 900, Floor: 3000, Guarantee: 40000,
		}},
		Reports: []api.Report{
			takings(1, 5, 10, 0, 20000), takings(2, 5, 10, 1, 10000),
			takings(3, 5, 11, 0, 5000), takings(4, 5, 11, 0, 4000),
			audit(5, 5, 12, 10001),
		},
	}
}

// three are books of three films whose contracts are not in the order of the films.
func three() api.Books {
	b := exampleB()
	b.Contracts = append(b.Contracts,
		api.Contract{Film: 9, First: 0, Last: 99, Steps: []int{1000}},
		api.Contract{Film: 2, First: 11, Last: 11, Steps: []int{500}, Guarantee: 300})
	b.Reports = append(b.Reports, takings(6, 9, 11, 3, 1009), takings(7, 2, 11, 3, 509))
	return b
}

// plain are books without a tax, of the film 1 in the weeks 0 to 9, of which the distributor gets half.
func plain(l ...api.Report) api.Books {
	return api.Books{Contracts: []api.Contract{{Film: 1, Last: 9, Steps: []int{500}}}, Reports: l}
}

// full are books at all limits.
func full() api.Books {
	b := api.Books{Tax: api.MaxTax}
	for n := range api.MaxContracts {
		c := api.Contract{
			Film: api.MaxId - n, First: 0, Last: api.MaxWeeks, Steps: slices.Repeat([]int{1000}, api.MaxSteps),
			Nut: api.MaxTake, Over: 1000, Floor: api.MaxTake, Guarantee: api.MaxSure,
		}
		for tier := range api.MaxTiers {
			c.Tiers = append(c.Tiers, api.Tier{From: api.MaxTake - api.MaxTiers + 1 + tier, Mille: 1000})
		}
		b.Contracts = append(b.Contracts, c)
	}
	for n := range api.MaxReports {
		week := n / api.MaxTills * (api.MaxWeeks / 3)
		b.Reports = append(b.Reports, takings(api.MaxId-n, api.MaxId, week, n%api.MaxTills, api.MaxTake))
	}
	return b
}

// sound are books without an error, most of them at the limits.
func sound() []api.Books {
	one := func(change func(b *api.Books)) api.Books { return with(exampleB(), change) }
	onContract := func(change func(c *api.Contract)) api.Books {
		return with(exampleB(), func(b *api.Books) { change(&b.Contracts[0]) })
	}
	return []api.Books{
		exampleB(), three(), plain(), full(), {},
		{Contracts: []api.Contract{}, Reports: []api.Report{}},
		one(func(b *api.Books) { b.Tax = 0 }),
		one(func(b *api.Books) { b.Reports = nil }),
		one(func(b *api.Books) { b.Reports = append(b.Reports, b.Reports...) }),
		one(func(b *api.Books) { b.Reports = slices.Repeat(b.Reports[:1], api.MaxReports) }),
		one(func(b *api.Books) { b.Reports[0] = takings(0, 5, 12, 9, 0) }),
		one(func(b *api.Books) {
			b.Reports[4] = api.Report{Id: 99, Kind: api.Audited, Film: 5, Week: 10, Till: 9, Cents: api.MaxTake}
		}),
		onContract(func(c *api.Contract) { c.First, c.Last = 0, 99 }),
		onContract(func(c *api.Contract) { c.Steps = []int{0} }),
		onContract(func(c *api.Contract) { c.Tiers = nil }),
		onContract(func(c *api.Contract) { c.Tiers = []api.Tier{{From: 0, Mille: 1000}, {From: 1, Mille: 0}} }),
		onContract(func(c *api.Contract) { c.Nut, c.Over, c.Floor, c.Guarantee = 0, 0, 0, 0 }),
		{Contracts: []api.Contract{{Film: 0, First: 0, Last: 0, Steps: []int{0}}}, Reports: []api.Report{takings(0, 0, 0, 0, 0)}},
		{Contracts: []api.Contract{{Film: 99, First: 99, Last: 99, Steps: []int{0}}}, Reports: []api.Report{audit(99, 99, 99, 0)}},
	}
}

// with returns a copy of books in which something was changed.
func with(b api.Books, change func(*api.Books)) api.Books {
	b = clone(b)
	change(&b)
	return b
}

// reporting returns books with more reports, as they stand.
func reporting(b api.Books, more ...api.Report) api.Books {
	return with(b, func(b *api.Books) { b.Reports = append(b.Reports, more...) })
}

func clone(b api.Books) api.Books {
	l := slices.Clone(b.Contracts)
	for n, c := range l {
		l[n].Steps, l[n].Tiers = slices.Clone(c.Steps), slices.Clone(c.Tiers)
	}
	return api.Books{Tax: b.Tax, Contracts: l, Reports: slices.Clone(b.Reports)}
}

func equal(a, b api.Books) bool {
	return a.Tax == b.Tax && slices.EqualFunc(a.Contracts, b.Contracts, sameContract) && slices.Equal(a.Reports, b.Reports)
}

func sameContract(a, b api.Contract) bool {
	return [7]int{a.Film, a.First, a.Last, a.Nut, a.Over, a.Floor, a.Guarantee} == [7]int{b.Film, b.First, b.Last, b.Nut, b.Over, b.Floor, b.Guarantee} &&
		slices.Equal(a.Steps, b.Steps) && slices.Equal(a.Tiers, b.Tiers)
}

// outside are numbers that are not from a first to a last one.
func outside(first, last int) map[string]int {
	return map[string]int{
		"just below": first - 1, "just above": last + 1, "the least": math.MinInt, "endless": math.MaxInt,
		"far below": -1 << 32, "far above": 1 << 32,
	}
}

// weekOf, dueOf, totalOf and payOf are for books that are known to be valid.
func weekOf(b api.Books, film, week int) api.Account {
	a, _ := share.Week(b, film, week)
	return a
}

func dueOf(b api.Books, film, week int) int {
	n, _ := share.Due(b, film, week)
	return n
}

func totalOf(b api.Books, week int) api.Account {
	a, _ := share.Total(b, week)
	return a
}

// The tests know gross, shares and what is due from the words of the document.

// lastOf returns the cents of the report with the greatest Id of which something is so, and whether there is one.
func lastOf(l []api.Report, is func(r api.Report) bool) (int, bool) {
	for id := api.MaxId; id >= 0; id-- {
		for _, r := range l {
			if r.Id == id && is(r) {
				return r.Cents, true
			}
		}
	}
	return 0, false
}

func grossBy(b api.Books, film, week int) int {
	about := func(r api.Report, kind int) bool { return r.Kind == kind && r.Film == film && r.Week == week }
	if cents, ok := lastOf(b.Reports, func(r api.Report) bool { return about(r, api.Audited) }); ok {
		return cents
	}
	sum := 0
	for till := range api.MaxTills {
		cents, _ := lastOf(b.Reports, func(r api.Report) bool { return about(r, api.Takings) && r.Till == till })
		sum += cents
	}
	return sum
}

// down returns so many thousandths of cents.
func down(cents, mille int) int {
	whole := cents * mille
	return (whole - whole%1000) / 1000
}

// milleBy returns the thousandths of a week, and whether a tier gives them.
func milleBy(c api.Contract, week, net int) (mille int, byTier bool) {
	steps := slices.Clone(c.Steps)
	for len(steps) < 100 {
		steps = append(steps, steps[len(steps)-1])
	}
	mille = steps[week-c.First]
	for _, t := range c.Tiers {
		if net >= t.From && t.Mille > mille {
			mille, byTier = t.Mille, true
		}
	}
	return mille, byTier
}

// shareBy returns what the distributor gets by a rule.
func shareBy(c api.Contract, week, net, rule int) int {
	switch rule {
	case api.ByStep:
		mille, _ := milleBy(c, week, net)
		return down(net, mille)
	case api.ByNut:
		if net <= c.Nut {
			return 0
		}
		return down(net-c.Nut, c.Over)
	}
	return c.Floor
}

func accountBy(b api.Books, c api.Contract, week int) api.Account {
	gross := grossBy(b, c.Film, week)
	a := api.Account{Gross: gross, Tax: down(gross, b.Tax)}
	a.Net = gross - a.Tax
	for _, rule := range []int{api.ByFloor, api.ByNut, api.ByStep} {
		if cents := shareBy(c, week, a.Net, rule); cents >= a.Share {
			a.Share, a.Rule = cents, rule
		}
	}
	a.Share = min(a.Share, a.Net)
	a.House = a.Net - a.Share
	return a
}

func totalBy(b api.Books, week int) api.Account {
	var sum api.Account
	for _, c := range b.Contracts {
		if c.First <= week && week <= c.Last {
			a := accountBy(b, c, week)
			sum.Gross, sum.Tax, sum.Net = sum.Gross+a.Gross, sum.Tax+a.Tax, sum.Net+a.Net
			sum.Share, sum.House = sum.Share+a.Share, sum.House+a.House
		}
	}
	return sum
}

func dueBy(b api.Books, c api.Contract, week int) int {
	sum := 0
	for w := range week + 1 {
		if c.First <= w && w <= c.Last {
			sum += accountBy(b, c, w).Share
		}
	}
	if week >= c.Last && sum < c.Guarantee {
		return c.Guarantee
	}
	return sum
}

// payBy returns what is to be paid and what was paid too much.
func payBy(b api.Books, week int, before []api.Payment) (pay, over []api.Payment) {
	for _, c := range byFilm(b) {
		left := dueBy(b, c, week)
		for _, p := range before {
			if p.Film == c.Film {
				left -= p.Cents
			}
		}
		if left > 0 {
			pay = append(pay, payment(c.Film, left))
		}
		if left < 0 {
			over = append(over, payment(c.Film, -left))
		}
	}
	return pay, over
}

// byFilm returns all contracts in the order of their films.
func byFilm(b api.Books) []api.Contract {
	return slices.SortedFunc(slices.Values(b.Contracts), func(a, b api.Contract) int { return cmp.Compare(a.Film, b.Film) })
}

// onceById returns all reports, each once, ordered by Id.
func onceById(l []api.Report) []api.Report {
	var once []api.Report
	for id := range api.MaxId + 1 {
		if n := slices.IndexFunc(l, func(r api.Report) bool { return r.Id == id }); n >= 0 {
			once = append(once, l[n])
		}
	}
	return once
}

// Random books have few weeks and tills, and takings near those from which on tiers, nuts and floors count.

func randomTier(rnd *rand.Rand, above int) api.Tier {
	return api.Tier{From: above + 1 + rnd.Intn(600), Mille: rnd.Intn(1001)}
}

func randomContract(rnd *rand.Rand, film int) api.Contract {
	c := api.Contract{Film: film, First: rnd.Intn(4), Nut: rnd.Intn(500), Over: rnd.Intn(1001), Floor: rnd.Intn(2) * rnd.Intn(700), Guarantee: rnd.Intn(4000)}
	c.Last = c.First + rnd.Intn(5)
	for range 1 + rnd.Intn(3) {
		c.Steps = append(c.Steps, rnd.Intn(1001))
	}
	above := -1
	for range rnd.Intn(3) {
		c.Tiers = append(c.Tiers, randomTier(rnd, above))
		above = c.Tiers[len(c.Tiers)-1].From
	}
	return c
}

// randomReport is about a film and a week of a contract.
func randomReport(rnd *rand.Rand, c api.Contract, id int) api.Report {
	r := takings(id, c.Film, c.First+rnd.Intn(c.Last-c.First+1), rnd.Intn(3), rnd.Intn(1000))
	if rnd.Intn(6) == 0 {
		r.Kind = api.Audited
	}
	return r
}

// randomBooks have from 1 to 3 contracts, and at most so many reports with Ids below 90, some of which come twice.
func randomBooks(rnd *rand.Rand, most int) api.Books {
	b := api.Books{Tax: rnd.Intn(2) * rnd.Intn(api.MaxTax+1)}
	films := rnd.Perm(10)
	for n := range 1 + rnd.Intn(3) {
		b.Contracts = append(b.Contracts, randomContract(rnd, films[n]))
	}
	ids := rnd.Perm(90)
	for n := range rnd.Intn(most + 1) {
		r := randomReport(rnd, b.Contracts[rnd.Intn(len(b.Contracts))], ids[n])
		if n > 0 && rnd.Intn(6) == 0 {
			r = b.Reports[rnd.Intn(n)]
		}
		b.Reports = append(b.Reports, r)
	}
	return b
}

// eachBooks calls a function with random books of at most so many reports.
func eachBooks(seed int64, times, most int, do func(rnd *rand.Rand, b api.Books)) {
	rnd := rand.New(rand.NewSource(seed))
	for range times {
		do(rnd, randomBooks(rnd, most))
	}
}

// eachWeek calls a function with all weeks of all contracts.
func eachWeek(b api.Books, do func(c api.Contract, week int)) {
	for _, c := range b.Contracts {
		for week := c.First; week <= c.Last; week++ {
			do(c, week)
		}
	}
}

// randomPayments are for films of the contracts.
func randomPayments(rnd *rand.Rand, b api.Books) []api.Payment {
	var l []api.Payment
	for range rnd.Intn(5) {
		l = append(l, payment(b.Contracts[rnd.Intn(len(b.Contracts))].Film, rnd.Intn(3)*rnd.Intn(1500)))
	}
	return l
}

func shuffle[T any](rnd *rand.Rand, l []T) {
	rnd.Shuffle(len(l), func(i, j int) { l[i], l[j] = l[j], l[i] })
}
