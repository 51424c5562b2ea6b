package seats_test

import (
	"fmt"
	"math/rand"
	"slices"
	"strings"

	"bijou/api"
	"bijou/seats"
)

func newHall(hold int, rows ...int) api.Hall { return api.Hall{Rows: rows, Hold: hold} }

func ask(id, at, order, size int) api.Call {
	return api.Call{Id: id, At: at, Kind: api.AskSeats, Order: order, Size: size}
}

func pay(id, at, order int) api.Call {
	return api.Call{Id: id, At: at, Kind: api.PaySeats, Order: order}
}

func drop(id, at, order int) api.Call {
	return api.Call{Id: id, At: at, Kind: api.DropSeats, Order: order}
}

// exampleH and exampleL are the hall and the calls of the chapter's examples.
func exampleH() api.Hall { return newHall(10, 5, 3) }

func exampleL() []api.Call {
	return []api.Call{ask(1, 0, 1, 2), ask(2, 1, 2, 2), pay(3, 5, 1), ask(4, 12, 3, 3), pay(5, 11, 2)}
}

// question is a hall with calls.
type question struct {
	h api.Hall
	l []api.Call
}

func example() question { return question{exampleH(), exampleL()} }

// full is a hall and calls that are at all limits.
func full() question {
	q := question{h: newHall(api.MaxHold, slices.Repeat([]int{api.MaxRow}, api.MaxRows)...)}
	for i := range api.MaxCalls / 2 {
		q.l = append(q.l, ask(api.MaxId-i, api.MaxClock-i%2, api.MaxId-i, api.MaxRow), pay(i, api.MaxClock, api.MaxId-i))
	}
	return q
}

// with returns a copy of a question in which something was changed.
func (q question) with(change func(*question)) question {
	q = q.clone()
	change(&q)
	return q
}

func (q question) clone() question {
	return question{api.Hall{Rows: slices.Clone(q.h.Rows), Hold: q.h.Hold}, slices.Clone(q.l)}
}

func (q question) equal(other question) bool {
	return slices.Equal(q.h.Rows, other.h.Rows) && q.h.Hold == other.h.Hold && slices.Equal(q.l, other.l)
}

// answers is all that can be known of a hall after a minute, as a text.
func answers(h api.Hall, l []api.Call, minute int) string {
	var b strings.Builder
	rows, e1 := seats.Map(h, l, minute)
	largest, e2 := seats.Largest(h, l, minute)
	vain, e3 := seats.Vain(h, l, minute)
	fmt.Fprintln(&b, rows, e1, largest, e2, vain, e3)
	for order := range api.MaxId + 1 {
		p, e := seats.Order(h, l, minute, order)
		fmt.Fprintln(&b, p, e)
	}
	for size := 1; size <= api.MaxRow; size++ {
		row, seat, e1 := seats.Best(h, l, minute, size)
		groups, e2 := seats.Groups(h, l, minute, size)
		fmt.Fprintln(&b, row, seat, e1, groups, e2)
	}
	return b.String()
}

// The tests know an evening from living through it minute by minute.

type evening struct {
	api.Hall
	seats [][]int
	state map[int]api.Place
	ends  map[int]int
	vain  map[int]bool
}

func empty(h api.Hall) evening {
	v := evening{Hall: h, state: map[int]api.Place{}, ends: map[int]int{}, vain: map[int]bool{}}
	for _, n := range h.Rows {
		v.seats = append(v.seats, slices.Repeat([]int{-1}, n))
	}
	return v
}

// eachMinute calls a function with the evening after each minute from the one before the first call to a last one.
func eachMinute(h api.Hall, l []api.Call, last int, do func(minute int, v evening)) {
	v := empty(h)
	for minute := max(0, firstMinute(l)-1); minute <= last; minute++ {
		for order, p := range v.state {
			if p.State == api.Held && v.ends[order] == minute {
				v.leave(order, api.Lapsed)
			}
		}
		for id := range api.MaxId + 1 {
			i := slices.IndexFunc(l, func(c api.Call) bool { return c.Id == id && c.At == minute })
			if i >= 0 {
				v.hear(l[i])
			}
		}
		do(minute, v)
	}
}

func firstMinute(l []api.Call) int {
	first := api.MaxClock
	for _, c := range l {
		first = min(first, c.At)
	}
	return first
}

// after returns the evening after a minute.
func after(h api.Hall, l []api.Call, minute int) evening {
	last := empty(h)
	eachMinute(h, l, minute, func(_ int, v evening) { last = v })
	return last
}

func (v evening) hear(c api.Call) {
	p := v.of(c.Order)
	switch {
	case c.Kind == api.AskSeats && p.State == api.Unheard:
		v.seat(c)
	case c.Kind == api.PaySeats && p.State == api.Held:
		p.State = api.Sold
		v.state[c.Order] = p
	case c.Kind == api.PaySeats:
		v.vain[c.Order] = true
	case c.Kind == api.DropSeats && (p.State == api.Held || p.State == api.Sold):
		v.leave(c.Order, api.Dropped)
	}
}

func (v evening) of(order int) api.Place {
	if p, ok := v.state[order]; ok {
		return p
	}
	return api.Place{State: api.Unheard, Row: -1, Seat: -1}
}

func (v evening) seat(c api.Call) {
	row, seat, ok := v.best(c.Size)
	if !ok {
		v.state[c.Order] = api.Place{State: api.Refused, Row: -1, Seat: -1, Size: c.Size}
		return
	}
	v.state[c.Order] = api.Place{State: api.Held, Row: row, Seat: seat, Size: c.Size}
	v.ends[c.Order] = c.At + v.Hold
	for n := range c.Size {
		v.seats[row][seat+n] = c.Order
	}
}

func (v evening) leave(order, state int) {
	for _, seats := range v.seats {
		for n := range seats {
			if seats[n] == order {
				seats[n] = -1
			}
		}
	}
	v.state[order] = api.Place{State: state, Row: -1, Seat: -1, Size: v.state[order].Size}
}

// plan is a row as a text: a point for a free seat, an x for another one, and a wall at both ends.
func plan(seats []int) string {
	b := []byte{'x'}
	for _, order := range seats {
		if order == -1 {
			b = append(b, '.')
		} else {
			b = append(b, 'x')
		}
	}
	return string(append(b, 'x'))
}

type place struct {
	row, seat int
	gap       bool
}

// placesIn returns all places for a group in some rows, in their order.
func placesIn(rows [][]int, size int) []place {
	var l []place
	group := strings.Repeat("g", size)
	for row, seats := range rows {
		text := plan(seats)
		for i := 1; i+size < len(text); i++ {
			if !strings.Contains(text[i:i+size], "x") {
				seated := text[:i] + group + text[i+size:]
				gap := strings.Contains(seated, "x.g") || strings.Contains(seated, "g.x")
				l = append(l, place{row, i - 1, gap})
			}
		}
	}
	return l
}

func (v evening) best(size int) (row, seat int, ok bool) {
	l := placesIn(v.seats, size)
	for _, p := range l {
		if !p.gap {
			return p.row, p.seat, true
		}
	}
	if len(l) == 0 {
		return 0, 0, false
	}
	return l[0].row, l[0].seat, true
}

// largest returns the most free seats side by side.
func (v evening) largest() int {
	most := 0
	for _, seats := range v.seats {
		for _, run := range strings.Split(plan(seats), "x") {
			most = max(most, len(run))
		}
	}
	return most
}

// groups returns how many groups can be seated at most, by trying each place of each row or none.
func (v evening) groups(size int) int {
	most := 0
	for _, seats := range v.seats {
		most += mostGroups(plan(seats), size)
	}
	return most
}

func mostGroups(text string, size int) int {
	if len(text) < size {
		return 0
	}
	most := mostGroups(text[1:], size)
	if !strings.Contains(text[:size], "x") {
		most = max(most, 1+mostGroups(text[size:], size))
	}
	return most
}

func (v evening) vainOrders() []int {
	var l []int
	for order := range api.MaxId + 1 {
		if v.vain[order] {
			l = append(l, order)
		}
	}
	return l
}

// canPack tells whether there are rows for all groups, by trying each row for each of them.
func canPack(rows, sizes []int) bool {
	if len(sizes) == 0 {
		return true
	}
	for i := range rows {
		if rows[i] >= sizes[0] {
			rest := slices.Clone(rows)
			rest[i] -= sizes[0]
			if canPack(rest, sizes[1:]) {
				return true
			}
		}
	}
	return false
}

// Random evenings have few orders and small rows, so that seats are scarce.

func randomHall(rnd *rand.Rand) api.Hall {
	h := newHall(1 + rnd.Intn(15))
	for range 1 + rnd.Intn(3) {
		h.Rows = append(h.Rows, 1+rnd.Intn(8))
	}
	return h
}

// someIds are the Ids below which those of random calls are, someOrders their orders.
const (
	someIds    = 60
	someOrders = 7
)

// randomCalls are at most so many calls of 25 minutes. Orders mostly ask before they pay, and pay before they are dropped.
func randomCalls(rnd *rand.Rand, base, most int) []api.Call {
	var l []api.Call
	ids := rnd.Perm(someIds)
	for _, id := range ids[:rnd.Intn(most+1)] {
		order := rnd.Intn(someOrders)
		from := func(first, minutes int) int { return min(api.MaxClock, base+first+rnd.Intn(minutes)) }
		switch kind := rnd.Intn(9); {
		case kind < 4:
			l = append(l, ask(id, from(0, 15), order, 1+rnd.Intn(4)))
		case kind < 7:
			l = append(l, pay(id, from(3, 15), order))
		default:
			l = append(l, drop(id, from(5, 20), order))
		}
	}
	return l
}

// randomBase is the first minute of random calls: the first one at all, one that is near the last one, or neither.
func randomBase(rnd *rand.Rand) int { return []int{0, 500, api.MaxClock - 20}[rnd.Intn(3)] }

// lastMinute is one after all calls of a base, and, if it can be, after all that is held.
func lastMinute(base int) int { return min(api.MaxClock, base+45) }

// before returns the calls that are heard before one.
func before(l []api.Call, c api.Call) []api.Call {
	return slices.DeleteFunc(slices.Clone(l), func(other api.Call) bool {
		return other.At > c.At || other.At == c.At && other.Id >= c.Id
	})
}

// upTo returns the calls up to a minute.
func upTo(l []api.Call, minute int) []api.Call {
	return slices.DeleteFunc(slices.Clone(l), func(c api.Call) bool { return c.At > minute })
}

// asked returns the call by which an order asked, if it did.
func asked(l []api.Call, order int) (api.Call, bool) {
	var first api.Call
	ok := false
	for _, c := range l {
		if c.Kind == api.AskSeats && c.Order == order && (!ok || c.At < first.At || c.At == first.At && c.Id < first.Id) {
			first, ok = c, true
		}
	}
	return first, ok
}

func stateOf(q question, minute, order int) api.Place {
	p, _ := seats.Order(q.h, q.l, minute, order)
	return p
}
