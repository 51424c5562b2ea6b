package share

import (
	"slices"

	"bijou/api"
)

// accountOf returns the account of a contract's film for one of its weeks.
func accountOf(b api.Books, c api.Contract, week int) api.Account {
	return account(b.Tax, c, week, grossOf(b.Reports, c.Film, week))
}

// account returns the account of one of a contract's weeks with a tax and a gross.
func account(tax int, c api.Contract, week, gross int) api.Account {
	a := api.Account{Gross: gross, Tax: part(gross, tax)}
	a.Net = a.Gross - a.Tax
	shares := sharesOf(c, week, a.Net)
	greatest := slices.Max(shares[:])
	a.Share = min(greatest, a.Net)
	a.Rule = api.ByStep + slices.Index(shares[:], greatest)
	a.House = a.Net - a.Share
	return a
}

// sharesOf returns what the distributor gets by each rule, from api.ByStep on.
func sharesOf(c api.Contract, week, net int) [3]int {
	return [3]int{
		part(net, thousandths(c, week, net)),
		part(max(0, net-c.Nut), c.Over),
		c.Floor,
	}
}

// thousandths returns those of a contract's week, or of the best tier that its net takings reach.
func thousandths(c api.Contract, week, net int) int {
	most := c.Steps[min(week-c.First, len(c.Steps)-1)]
	for _, t := range c.Tiers {
		if t.From <= net {
			most = max(most, t.Mille)
		}
	}
	return most
}

// part returns so many thousandths of an amount, rounded down.
func part(cents, mille int) int { return cents * mille / 1000 }

// together returns the sums of two accounts, which have no rule.
func together(a, b api.Account) api.Account {
	return api.Account{
		Gross: a.Gross + b.Gross,
		Tax:   a.Tax + b.Tax,
		Net:   a.Net + b.Net,
		Share: a.Share + b.Share,
		House: a.House + b.House,
	}
}

// due returns what is due for a contract's film after a week.
func due(b api.Books, c api.Contract, week int) int {
	sum := 0
	for w := c.First; w <= min(week, c.Last); w++ {
		sum += accountOf(b, c, w).Share
	}
	if week < c.Last {
		return sum
	}
	return max(sum, c.Guarantee)
}

// paid returns all that was paid for a film.
func paid(before []api.Payment, film int) int {
	sum := 0
	for _, p := range before {
		if p.Film == film {
			sum += p.Cents
		}
	}
	return sum
}
