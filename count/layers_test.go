package count_test

import (
	"math/rand"
	"slices"
	"testing"

	"bijou/api"
	"bijou/count"
	"bijou/seats"
	"bijou/share"
)

// randomCalls ask for seats of a small hall, and pay or drop some of them.
func randomCalls(rnd *rand.Rand) (api.Hall, []api.Call) {
	h := api.Hall{Rows: []int{1 + rnd.Intn(7), 1 + rnd.Intn(6)}, Hold: 1 + rnd.Intn(20)}
	var l []api.Call
	add := func(at, kind, order, size int) {
		l = append(l, api.Call{Id: len(l), At: at, Kind: kind, Order: order, Size: size})
	}
	for order := range 1 + rnd.Intn(10) {
		at := rnd.Intn(30)
		add(at, api.AskSeats, order, 1+rnd.Intn(3))
		if rnd.Intn(5) > 0 {
			add(at+rnd.Intn(12), api.PaySeats, order, 0)
		}
		if rnd.Intn(6) == 0 {
			add(at+rnd.Intn(20), api.DropSeats, order, 0)
		}
	}
	return h, l
}

// soldSeats returns how many seats of a hall are sold at last, and how many of them each till sold, if each order is one of the next till.
func soldSeats(t *testing.T, h api.Hall, calls []api.Call, tills int) (all int, byTill []int) {
	t.Helper()
	rows, e := seats.Map(h, calls, api.MaxClock)
	if e != api.OK {
		t.Fatalf("Map of %v and %v: %d", h, calls, e)
	}
	for _, row := range rows {
		for _, order := range row {
			if order != -1 {
				all++
			}
		}
	}
	byTill = make([]int, tills)
	for order := range api.MaxId + 1 {
		p, e := seats.Order(h, calls, api.MaxClock, order)
		if e != api.OK {
			t.Fatalf("Order of %v and %v: %d", h, calls, e)
		}
		if p.State == api.Sold {
			byTill[order%tills] += p.Size
		}
	}
	return all, byTill
}

// countedEvening is one whose tills count the tickets of their orders right, and whether none of them has more than a roll.
func countedEvening(t *testing.T, rnd *rand.Rand) (v api.Evening, ok bool) {
	t.Helper()
	for range 1 + rnd.Intn(api.MaxCounters) {
		v.Counters = append(v.Counters, till(rnd.Intn(99), 0, rnd.Intn(3), rnd.Intn(50), 0))
	}
	for range 1 + rnd.Intn(api.MaxBills) {
		h, calls := randomCalls(rnd)
		all, byTill := soldSeats(t, h, calls, len(v.Counters))
		v.Prices, v.Seats, v.Stubs = append(v.Prices, 1+rnd.Intn(9)), append(v.Seats, all), append(v.Stubs, rnd.Intn(all+1))
		for n, sold := range byTill {
			v.Counters[n].Sold = append(v.Counters[n].Sold, sold)
		}
	}
	for n := range v.Counters {
		c := &v.Counters[n]
		c.Last, c.Cash = c.First+c.Void+sum(c.Sold), c.Float+moneyFor(v.Prices, c.Sold)
		if sum(c.Sold) > api.MaxRoll {
			return v, false
		}
	}
	return v, true
}

// P0.8 (the counted evening): if each till counts the tickets of its orders right, everything agrees; if one keys a ticket for another show, it is a suspect.
func TestCountedEvening(t *testing.T) {
	rnd := rand.New(rand.NewSource(108))
	right, wrong := 0, 0
	for range 400 {
		v, ok := countedEvening(t, rnd)
		if !ok {
			continue
		}
		right++
		checkParts(t, "counted", v, api.AgreeAll, -1)
		for n, c := range v.Counters {
			show, other := rnd.Intn(len(v.Prices)), rnd.Intn(len(v.Prices))
			if show == other || c.Sold[show] == 0 {
				continue
			}
			wrong++
			w := with(v, func(v *api.Evening) {
				v.Counters[n].Sold[show]--
				v.Counters[n].Sold[other]++
			})
			if l, e := count.Suspects(w); !slices.Contains(l, n) || e != api.OK {
				t.Errorf("Suspects of %v are %v, %d, but the till %d keyed a ticket wrong", w, l, e, n)
			}
			checkFewest(t, "one ticket keyed wrong", w, 1)
		}
	}
	if right < 200 || wrong < 100 {
		t.Errorf("%d evenings were counted right, and %d tickets keyed wrong", right, wrong)
	}
}

// auditOf are the books of the films of an evening, in which an audit found the price of all seats.
func auditOf(v api.Evening, week int) api.Books {
	b := api.Books{Tax: 100}
	for film, price := range v.Prices {
		b.Contracts = append(b.Contracts, api.Contract{Film: film, First: week, Last: week, Steps: []int{500}})
		b.Reports = append(b.Reports, api.Report{Id: film, Kind: api.Audited, Film: film, Week: week, Cents: price * v.Seats[film]})
	}
	return b
}

// P0.14 (the evening that is shared): what tills really sold is, film by film, the price times the seats, and all together what is in the tills, less what was there at first, and what is missing.
func TestSharedEvening(t *testing.T) {
	const week = 7
	flaws := 0
	eachEvening(114, 1000, 8, func(_ *rand.Rand, v api.Evening) {
		truth, e := count.Explain(v)
		if e != api.OK {
			return
		}
		b := auditOf(v, week)
		for film, sold := range allSold(v, truth) {
			a, e := share.Week(b, film, week)
			if a.Gross != v.Prices[film]*sold || e != api.OK {
				t.Errorf("the gross of the film %d of %v is %v, %d, but the tills really sold %v", film, v, a, e, truth)
			}
		}
		total, e := share.Total(b, week)
		low, high := 0, 0
		taken, lost := 0, 0
		for till, c := range v.Counters {
			s, f := count.Missing(v, till)
			if f != api.OK {
				t.Errorf("Missing of %v and %d: %d", v, till, f)
			}
			low, high = low+s.Low, high+s.High
			taken += c.Cash - c.Float
			lost += missingIn(v, till, truth[till])
		}
		if lost != 0 {
			flaws++
		}
		if total.Gross != taken+lost || lost < low || lost > high || e != api.OK {
			t.Errorf("the gross of %v is %v, %d, but %d was taken, and %d is missing, from %d to %d", v, total, e, taken, lost, low, high)
		}
	})
	if flaws < 200 {
		t.Errorf("money was missing only %d times", flaws)
	}
}
