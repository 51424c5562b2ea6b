package count

import "bijou/api"

// tickets are a number for each show, 0 for shows that are not there: tickets, seats or prices.
type tickets [api.MaxBills]int

func ticketsOf(l []int) tickets {
	var t tickets
	copy(t[:], l)
	return t
}

// together returns how many tickets there are for all shows.
func (t tickets) together() int {
	sum := 0
	for _, n := range t {
		sum += n
	}
	return sum
}

// cost returns the prices of all tickets.
func (t tickets) cost(prices tickets) int {
	sum := 0
	for show, n := range t {
		sum += n * prices[show]
	}
	return sum
}

func (t tickets) plus(more tickets) tickets {
	for show, n := range more {
		t[show] += n
	}
	return t
}

func (t tickets) minus(less tickets) tickets {
	for show, n := range less {
		t[show] -= n
	}
	return t
}

// splits returns all ways to sell so many tickets, for no show more than its seats.
func splits(many int, seats tickets) []tickets {
	var all []tickets
	var sell func(t tickets, show, left int)
	sell = func(t tickets, show, left int) {
		if show == len(t) {
			if left == 0 {
				all = append(all, t)
			}
			return
		}
		for n := range min(left, seats[show]) + 1 {
			t[show] = n
			sell(t, show+1, left-n)
		}
	}
	sell(tickets{}, 0, many)
	return all
}
