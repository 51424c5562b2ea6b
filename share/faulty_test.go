package share_test

import (
	"slices"
	"strconv"

	"bijou/api"
)

type adder func(name string, change func(b *api.Books))

// named returns an adder to changes, no two of which may have the same name.
func named(all map[string]func(b *api.Books)) adder {
	return func(name string, change func(b *api.Books)) {
		if _, ok := all[name]; ok {
			panic("two faults have the name " + name)
		}
		all[name] = change
	}
}

// faulty are changes to the three books, with each of which they are not valid, whatever their reports are.
func faulty() map[string]func(b *api.Books) {
	all := map[string]func(b *api.Books){}
	add := named(all)
	for how, n := range outside(0, 500) {
		add("Tax "+how, func(b *api.Books) { b.Tax = n })
	}
	addContracts(add)
	addNumbers(add)
	addLists(add)
	return all
}

func addContracts(add adder) {
	add("7 contracts", func(b *api.Books) {
		for n := range 4 {
			c := b.Contracts[0]
			c.Film = 20 + n
			b.Contracts = append(b.Contracts, c)
		}
	})
	add("100000 contracts", func(b *api.Books) { b.Contracts = slices.Repeat(b.Contracts[:1], 100000) })
	add("the first two films the same", func(b *api.Books) { b.Contracts[1].Film = 5 })
	add("the first and the last film the same", func(b *api.Books) { b.Contracts[2].Film = 5 })
	add("the last two films the same", func(b *api.Books) { b.Contracts[2].Film = 9 })
	add("a contract twice", func(b *api.Books) { b.Contracts = append(b.Contracts, b.Contracts[1]) })
	for n := range three().Contracts {
		at := " of the contract " + strconv.Itoa(n)
		add("First after Last"+at, func(b *api.Books) { b.Contracts[n].First, b.Contracts[n].Last = 12, 11 })
		add("First 99, Last 0"+at, func(b *api.Books) { b.Contracts[n].First, b.Contracts[n].Last = 99, 0 })
		add("First and Last -1"+at, func(b *api.Books) { b.Contracts[n].First, b.Contracts[n].Last = -1, -1 })
		add("First and Last 100"+at, func(b *api.Books) { b.Contracts[n].First, b.Contracts[n].Last = 100, 100 })
	}
}

// addNumbers adds faults of the numbers of contracts.
func addNumbers(add adder) {
	addNumber := func(name string, last int, field func(c *api.Contract) *int) {
		for how, n := range outside(0, last) {
			for number := range three().Contracts {
				add(name+" "+how+" of the contract "+strconv.Itoa(number), func(b *api.Books) { *field(&b.Contracts[number]) = n })
			}
		}
	}
	addNumber("Film", 99, func(c *api.Contract) *int { return &c.Film })
	addNumber("First", 99, func(c *api.Contract) *int { return &c.First })
	addNumber("Last", 99, func(c *api.Contract) *int { return &c.Last })
	addNumber("Nut", 10000000, func(c *api.Contract) *int { return &c.Nut })
	addNumber("Over", 1000, func(c *api.Contract) *int { return &c.Over })
	addNumber("Floor", 10000000, func(c *api.Contract) *int { return &c.Floor })
	addNumber("Guarantee", 100000000, func(c *api.Contract) *int { return &c.Guarantee })
}

// addLists adds faults of steps and tiers.
func addLists(add adder) {
	addSteps := func(name string, l ...int) {
		add("steps "+name, func(b *api.Books) { b.Contracts[2].Steps = l })
	}
	addTiers := func(name string, l ...api.Tier) {
		add("tiers "+name, func(b *api.Books) { b.Contracts[0].Tiers = l })
	}
	addSteps("nil")
	addSteps("empty", []int{}...)
	addSteps("7", slices.Repeat([]int{500}, 7)...)
	addSteps("100000", slices.Repeat([]int{500}, 100000)...)
	addTiers("5", api.Tier{From: 1}, api.Tier{From: 2}, api.Tier{From: 3}, api.Tier{From: 4}, api.Tier{From: 5})
	addTiers("100000", make([]api.Tier, 100000)...)
	addTiers("equal", api.Tier{From: 10, Mille: 1}, api.Tier{From: 10, Mille: 1})
	addTiers("from the same on", api.Tier{From: 10, Mille: 1}, api.Tier{From: 10, Mille: 2})
	addTiers("descending", api.Tier{From: 10, Mille: 1}, api.Tier{From: 9, Mille: 2})
	addTiers("descending at last", api.Tier{From: 10, Mille: 1}, api.Tier{From: 12, Mille: 2}, api.Tier{From: 11, Mille: 3})
	for how, n := range outside(0, 1000) {
		addSteps("with one "+how, n)
		addSteps("with the first one "+how, n, 500)
		addSteps("with the last one "+how, 500, 500, n)
		addTiers("with the first Mille "+how, api.Tier{From: 0, Mille: n}, api.Tier{From: 1, Mille: 1})
		addTiers("with the last Mille "+how, api.Tier{From: 0, Mille: 1}, api.Tier{From: 1, Mille: n})
	}
	for how, n := range outside(0, 10000000) {
		addTiers("with one From "+how, api.Tier{From: n, Mille: 1})
		addTiers("with the first From "+how, api.Tier{From: n, Mille: 1}, api.Tier{From: 10000000, Mille: 1})
		addTiers("with the last From "+how, api.Tier{From: 0, Mille: 1}, api.Tier{From: n, Mille: 1})
	}
}

// faultyReports are none for the three books: not valid, or in a clash with each other.
func faultyReports() map[string][]api.Report {
	all := map[string][]api.Report{
		"41 reports":                     manyReports(41),
		"41 equal reports":               slices.Repeat(three().Reports[:1], 41),
		"100000 reports":                 slices.Repeat(three().Reports[:1], 100000),
		"a film without a contract":      {takings(1, 6, 11, 0, 0)},
		"the film 0":                     {{Id: 1, Kind: api.Takings, Week: 11}},
		"a week before First":            {takings(1, 5, 9, 0, 0)},
		"a week after Last":              {takings(1, 5, 13, 0, 0)},
		"a week of another film":         {takings(1, 2, 12, 0, 0)},
		"the audit of another week":      {audit(1, 2, 10, 0)},
		"the kind 0":                     {{Id: 1, Film: 5, Week: 10}},
		"the kind 3":                     {{Id: 1, Kind: 3, Film: 5, Week: 10}},
		"the till 10 of an audit":        {{Id: 1, Kind: api.Audited, Film: 5, Week: 10, Till: 10}},
		"the till -1 of an audit":        {{Id: 1, Kind: api.Audited, Film: 5, Week: 10, Till: -1}},
		"the same Id, other cents":       {takings(1, 5, 10, 0, 1), takings(1, 5, 10, 0, 2)},
		"the same Id, another till":      {takings(1, 5, 10, 0, 1), takings(1, 5, 10, 1, 1)},
		"the same Id, another week":      {takings(1, 5, 10, 0, 1), takings(1, 5, 11, 0, 1)},
		"the same Id, another film":      {takings(1, 5, 11, 0, 1), takings(1, 9, 11, 0, 1)},
		"the same Id, another kind":      {takings(1, 5, 10, 0, 1), audit(1, 5, 10, 1)},
		"the same Id, audits that part":  {{Id: 1, Kind: api.Audited, Film: 5, Week: 10}, {Id: 1, Kind: api.Audited, Film: 5, Week: 10, Till: 1}},
		"the same Id 0, other cents":     {takings(0, 5, 10, 0, 1), takings(0, 5, 10, 0, 0)},
		"the same Id around others":      {takings(1, 5, 10, 0, 1), takings(2, 5, 10, 0, 1), takings(3, 5, 10, 0, 1), takings(1, 5, 10, 0, 2)},
		"the same Id behind equal ones":  {takings(1, 5, 10, 0, 1), takings(1, 5, 10, 0, 1), takings(1, 5, 10, 0, 2)},
		"the same Id between equal ones": {takings(1, 5, 10, 0, 1), takings(1, 5, 10, 0, 2), takings(1, 5, 10, 0, 1)},
	}
	fields := map[string]struct {
		last  int
		field func(r *api.Report) *int
	}{
		"Id":    {99, func(r *api.Report) *int { return &r.Id }},
		"Kind":  {2, func(r *api.Report) *int { return &r.Kind }},
		"Film":  {99, func(r *api.Report) *int { return &r.Film }},
		"Week":  {99, func(r *api.Report) *int { return &r.Week }},
		"Till":  {9, func(r *api.Report) *int { return &r.Till }},
		"Cents": {10000000, func(r *api.Report) *int { return &r.Cents }},
	}
	for name, x := range fields {
		for how, n := range outside(0, x.last) {
			for number := range three().Reports {
				l := three().Reports
				*x.field(&l[number]) = n
				all[name+" "+how+" of the report "+strconv.Itoa(number)] = l
			}
		}
	}
	return all
}

// manyReports are so many different reports for the three books, with Ids from 50 on.
func manyReports(n int) []api.Report {
	var l []api.Report
	for id := range n {
		l = append(l, takings(50+id, 9, id, id%api.MaxTills, id))
	}
	return l
}

// faultyPayments are none that can have been paid by the three books.
func faultyPayments() map[string][]api.Payment {
	all := map[string][]api.Payment{
		"101 payments":              slices.Repeat([]api.Payment{payment(5, 1)}, 101),
		"101 payments of nothing":   slices.Repeat([]api.Payment{payment(5, 0)}, 101),
		"100000 payments":           slices.Repeat([]api.Payment{payment(5, 1)}, 100000),
		"a film without a contract": {payment(6, 1)},
		"the film 0":                {payment(0, 0)},
		"the last film":             {payment(5, 1), payment(9, 1), payment(3, 0)},
		"the first film":            {payment(-5, 1), payment(9, 1), payment(2, 0)},
	}
	for how, n := range outside(0, 1000000000) {
		all["Cents "+how] = []api.Payment{payment(5, n)}
		all["Cents "+how+" at first"] = []api.Payment{payment(9, n), payment(5, 1)}
		all["Cents "+how+" at last"] = []api.Payment{payment(5, 1), payment(2, n)}
		all["Film "+how] = []api.Payment{payment(n, 1)}
	}
	return all
}
