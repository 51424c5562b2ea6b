package seats_test

import (
	"math/rand"
	"slices"
	"testing"

	"bijou/api"
	"bijou/seats"
)

// eachEvening calls a function with random halls and calls after each minute in which something can happen.
func eachEvening(seed int64, times int, do func(rnd *rand.Rand, q question, minute int)) {
	rnd := rand.New(rand.NewSource(seed))
	for range times {
		base := randomBase(rnd)
		q := question{randomHall(rnd), randomCalls(rnd, base, 25)}
		for minute := max(0, base-1); minute <= lastMinute(base); minute++ {
			do(rnd, q, minute)
		}
	}
}

func mapOf(q question, minute int) [][]int {
	rows, _ := seats.Map(q.h, q.l, minute)
	return rows
}

func hasSeats(p api.Place) bool { return p.State == api.Held || p.State == api.Sold }

// P4.9 (once).
func TestOnce(t *testing.T) {
	with := 0
	eachEvening(9, 60, func(_ *rand.Rand, q question, minute int) {
		rows := mapOf(q, minute)
		taken := 0
		for order := range api.MaxId + 1 {
			p := stateOf(q, minute, order)
			c, _ := asked(upTo(q.l, minute), order)
			if p.Size != c.Size {
				t.Errorf("after %d of %v the order %d, which asked for %d, is %v", minute, q, order, c.Size, p)
			}
			if !hasSeats(p) && (p.Row != -1 || p.Seat != -1) {
				t.Errorf("after %d of %v the order %d is %v", minute, q, order, p)
			}
			if hasSeats(p) {
				with++
				taken += p.Size
				if seats := rows[p.Row][p.Seat:]; !slices.Equal(seats[:p.Size], slices.Repeat([]int{order}, p.Size)) {
					t.Errorf("after %d of %v the order %d is %v, but %v has the seats", minute, q, order, p, seats)
				}
			}
		}
		if taken != countTaken(rows) {
			t.Errorf("after %d of %v orders have %d seats, but %v", minute, q, taken, rows)
		}
	})
	if with < 1000 {
		t.Errorf("only %d orders had seats", with)
	}
}

func countTaken(rows [][]int) int {
	n := 0
	for _, row := range rows {
		for _, order := range row {
			if order != -1 {
				n++
			}
		}
	}
	return n
}

// P4.10 (any order): the order in which calls are given, those that come twice, and those of later minutes change nothing.
func TestAnyOrder(t *testing.T) {
	eachEvening(10, 20, func(rnd *rand.Rand, q question, minute int) {
		all := answers(q.h, q.l, minute)
		late := laterCalls(minute)
		room := api.MaxCalls - len(late) - len(q.l)
		mixed := append(slices.Clone(q.l), q.l[:rnd.Intn(min(len(q.l), room)+1)]...)
		rnd.Shuffle(len(mixed), func(i, j int) { mixed[i], mixed[j] = mixed[j], mixed[i] })
		if answers(q.h, mixed, minute) != all {
			t.Errorf("after %d %v and %v are not the same", minute, q, mixed)
		}
		if now := upTo(q.l, minute); answers(q.h, now, minute) != all {
			t.Errorf("after %d %v and only %v are not the same", minute, q, now)
		}
		if later := append(mixed, late...); answers(q.h, later, minute) != all {
			t.Errorf("after %d %v and %v are not the same", minute, q, later)
		}
	})
}

// laterCalls are calls of the minute behind one, if there is one, which have lower and greater Ids than others.
func laterCalls(minute int) []api.Call {
	if minute == api.MaxClock {
		return nil
	}
	return []api.Call{ask(someIds, minute+1, 0, 1), drop(someIds+1, minute+1, 1), pay(api.MaxId, minute+1, 2)}
}

// P4.11 (who asks gets): an order is refused only if no row had seats enough when it asked; otherwise it gets what Best says.
func TestWhoAsksGets(t *testing.T) {
	rnd := rand.New(rand.NewSource(11))
	refused, given := 0, 0
	for range 1500 {
		base := randomBase(rnd)
		q := question{randomHall(rnd), randomCalls(rnd, base, 25)}
		for order := range someOrders {
			c, ok := asked(q.l, order)
			if !ok {
				continue
			}
			then := question{q.h, before(q.l, c)}
			alone := question{q.h, append(then.l, c)}
			largest, _ := seats.Largest(then.h, then.l, c.At)
			row, seat, e := seats.Best(then.h, then.l, c.At, c.Size)
			want := seated(api.Held, row, seat, c.Size)
			if e == api.ErrNone {
				refused++
				want = seatless(api.Refused, c.Size)
			} else {
				given++
			}
			if p := stateOf(alone, c.At, order); p != want || (e == api.ErrNone) != (largest < c.Size) {
				t.Errorf("%v of %v got %v, not %v, where %d can sit side by side", c, q, p, want, largest)
			}
		}
	}
	if refused < 300 || given < 300 {
		t.Errorf("%d orders were refused, %d got seats", refused, given)
	}
}

// P4.11 and P4.12 (gaps): Best is a place on the free seats of Map, and leaves a gap only if each place does.
func TestGaps(t *testing.T) {
	gaps, others, later := 0, 0, 0
	eachEvening(12, 60, func(_ *rand.Rand, q question, minute int) {
		rows := mapOf(q, minute)
		for size := 1; size <= 8; size++ {
			l := placesIn(rows, size)
			row, seat, e := seats.Best(q.h, q.l, minute, size)
			if (e == api.ErrNone) != (len(l) == 0) {
				t.Errorf("Best of %d after %d of %v = %d, %d, %d, but the places are %v", size, minute, q, row, seat, e, l)
			}
			if e != api.OK {
				continue
			}
			i := slices.IndexFunc(l, func(p place) bool { return p.row == row && p.seat == seat })
			if i < 0 || l[i].gap && slices.ContainsFunc(l, func(p place) bool { return !p.gap }) {
				t.Errorf("Best of %d after %d of %v = %d, %d, but the places are %v", size, minute, q, row, seat, l)
				continue
			}
			switch {
			case l[i].gap:
				gaps++
			case i > 0:
				later++
			default:
				others++
			}
		}
	})
	if gaps < 300 || others < 300 || later < 300 {
		t.Errorf("%d places leave gaps, %d do not, %d do not but are not the first", gaps, others, later)
	}
}

// P4.13 (no hold for ever): no order is held for as long as Hold, and none that is not dropped loses seats before.
func TestNoHoldForEver(t *testing.T) {
	held, lapsed := 0, 0
	eachEvening(13, 150, func(_ *rand.Rand, q question, minute int) {
		for order := range someOrders {
			c, ok := asked(upTo(q.l, minute), order)
			switch p := stateOf(q, minute, order); {
			case ok && p.State == api.Held:
				held++
				if c.At+q.h.Hold <= minute {
					t.Errorf("after %d of %v the order %d is still %v", minute, q, order, p)
				}
			case ok && p.State == api.Lapsed:
				lapsed++
				if c.At+q.h.Hold > minute {
					t.Errorf("after %d of %v the order %d is already %v", minute, q, order, p)
				}
			}
		}
	})
	if held < 1000 || lapsed < 1000 {
		t.Errorf("%d orders were held, %d lapsed", held, lapsed)
	}
}

// P4.13: what is sold stays sold, with the same seats, until it is dropped.
func TestSoldStaysSold(t *testing.T) {
	sold, dropped := 0, 0
	eachEvening(113, 500, func(_ *rand.Rand, q question, minute int) {
		for order := range someOrders {
			was := stateOf(q, minute, order)
			if was.State != api.Sold || minute == api.MaxClock {
				continue
			}
			want := was
			if slices.ContainsFunc(q.l, func(c api.Call) bool { return c.Kind == api.DropSeats && c.Order == order && c.At == minute+1 }) {
				want = seatless(api.Dropped, was.Size)
				dropped++
			}
			sold++
			if p := stateOf(q, minute+1, order); p != want {
				t.Errorf("after %d of %v the order %d is %v, then %v", minute, q, order, was, p)
			}
		}
	})
	if sold < 1000 || dropped < 50 {
		t.Errorf("%d orders were sold, %d then dropped", sold, dropped)
	}
}

// P4.14 (largest): a group as large as Largest is not refused, a larger one is.
func TestLargestIsSeated(t *testing.T) {
	none, some := 0, 0
	eachEvening(14, 100, func(_ *rand.Rand, q question, minute int) {
		largest, e := seats.Largest(q.h, q.l, minute)
		if e != api.OK {
			t.Errorf("Largest after %d of %v = %d", minute, q, e)
		}
		for size := 1; size <= api.MaxRow; size++ {
			late := question{q.h, append(upTo(q.l, minute), ask(api.MaxId, minute, api.MaxId, size))}
			p := stateOf(late, minute, api.MaxId)
			if (p.State == api.Held) != (size <= largest) || (p.State == api.Refused) != (size > largest) {
				t.Errorf("Largest after %d of %v = %d, but an order of %d is %v", minute, q, largest, size, p)
			}
		}
		if largest == 0 {
			none++
		} else {
			some++
		}
	})
	if none < 50 || some < 500 {
		t.Errorf("%d times no seat was free, %d times some", none, some)
	}
}

// P4.14: if orders of one size ask one after the other, as many as Groups says get seats, and the next one is refused.
func TestGroupsAreSeated(t *testing.T) {
	seatings := map[int]int{}
	eachEvening(114, 60, func(rnd *rand.Rand, q question, minute int) {
		size := 1 + rnd.Intn(5)
		groups, e := seats.Groups(q.h, q.l, minute, size)
		if e != api.OK {
			t.Errorf("Groups of %d after %d of %v: %d", size, minute, q, e)
		}
		late := question{q.h, upTo(q.l, minute)}
		for n := range min(groups+1, api.MaxCalls-len(late.l)) {
			order := someIds + n
			late.l = append(late.l, ask(order, minute, order, size))
			if p := stateOf(late, minute, order); (p.State == api.Held) != (n < groups) || (p.State == api.Refused) != (n >= groups) {
				t.Errorf("Groups of %d after %d of %v = %d, but then the order number %d is %v", size, minute, q, groups, n, p)
			}
		}
		seatings[min(groups, 3)]++
	})
	for groups := range 4 {
		if seatings[groups] < 50 {
			t.Errorf("only %d times %d groups were seated", seatings[groups], groups)
		}
	}
}

// P4.15 (in vain): who paid in vain had not asked, or was refused, lapsed, dropped, or had paid already; who is sold paid in time.
func TestInVain(t *testing.T) {
	rnd := rand.New(rand.NewSource(15))
	vain := map[int]int{}
	for range 1500 {
		base := randomBase(rnd)
		q := question{randomHall(rnd), randomCalls(rnd, base, 30)}
		last := lastMinute(base)
		paid := map[int]bool{}
		for _, c := range q.l {
			if c.Kind != api.PaySeats {
				continue
			}
			was := stateOf(question{q.h, before(q.l, c)}, c.At, c.Order)
			now := stateOf(question{q.h, append(before(q.l, c), c)}, c.At, c.Order)
			want := was
			if was.State == api.Held {
				want.State = api.Sold
			} else {
				paid[c.Order] = true
				vain[was.State]++
			}
			if now != want {
				t.Errorf("%v of %v changes %v to %v", c, q, was, now)
			}
		}
		checkVain(t, "random", q, last, ascending(paid)...)
		checkSoldInTime(t, q, last)
	}
	for _, state := range []int{api.Unheard, api.Refused, api.Sold, api.Lapsed, api.Dropped} {
		if vain[state] < 100 {
			t.Errorf("only %d times somebody paid in vain in the state %d", vain[state], state)
		}
	}
}

func ascending(set map[int]bool) []int {
	var l []int
	for n := range set {
		l = append(l, n)
	}
	slices.Sort(l)
	return l
}

// checkSoldInTime tells whether each order that is sold paid when it was held.
func checkSoldInTime(t *testing.T, q question, minute int) {
	t.Helper()
	for order := range someOrders {
		if stateOf(q, minute, order).State != api.Sold {
			continue
		}
		asks, _ := asked(q.l, order)
		inTime := func(c api.Call) bool {
			return c.Kind == api.PaySeats && c.Order == order && c.At < asks.At+q.h.Hold && (c.At > asks.At || c.At == asks.At && c.Id > asks.Id)
		}
		if !slices.ContainsFunc(q.l, inTime) {
			t.Errorf("after %d of %v the order %d is sold, but did not pay in time", minute, q, order)
		}
	}
}

// P4.16 (packed): the groups fit in their rows; if there are no such rows, no rows will do.
func TestPacked(t *testing.T) {
	rnd := rand.New(rand.NewSource(16))
	packed, not := 0, 0
	for range 8000 {
		h := newHall(1)
		total := 0
		for range 1 + rnd.Intn(4) {
			h.Rows = append(h.Rows, 1+rnd.Intn(api.MaxRow))
			total += h.Rows[len(h.Rows)-1]
		}
		sizes := randomGroups(rnd, total)
		if canPack(h.Rows, sizes) {
			packed++
			checkPacked(t, h, sizes...)
		} else {
			not++
			checkPackError(t, "random groups", h, sizes, api.ErrNone)
		}
	}
	if packed < 1000 || not < 1000 {
		t.Errorf("%d times groups fit, %d times they do not", packed, not)
	}
}

// randomGroups are groups that need nearly all of some seats.
func randomGroups(rnd *rand.Rand, total int) []int {
	var sizes []int
	most := 1 + rnd.Intn(api.MaxRow)
	for left := total - rnd.Intn(3); left > 0 && len(sizes) < api.MaxRow; {
		size := 1 + rnd.Intn(min(most, left))
		sizes = append(sizes, size)
		left -= size
	}
	return sizes
}
