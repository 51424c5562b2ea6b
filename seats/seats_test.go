package seats_test

import (
	"fmt"
	"math"
	"slices"
	"testing"

	"bijou/api"
	"bijou/seats"
)

// P4.1: Check returns the first error of a hall and calls.
func TestCheck(t *testing.T) {
	for name, x := range faulty() {
		q := example().with(x.change)
		if e := seats.Check(q.h, q.l); e != x.e {
			t.Errorf("%s: Check = %d, not %d", name, e, x.e)
		}
	}
	for i, q := range sound() {
		if e := seats.Check(q.h, q.l); e != api.OK {
			t.Errorf("sound hall %d: Check = %d", i, e)
		}
	}
}

// checkErrors tells whether all calls with a minute return an error with zero values.
func checkErrors(t *testing.T, name string, q question, minute, order, size int, want api.Errno) {
	t.Helper()
	checkMinuteErrors(t, name, q, minute, want)
	checkOrderError(t, name, q, minute, order, want)
	checkSizeErrors(t, name, q, minute, size, want)
}

func checkMinuteErrors(t *testing.T, name string, q question, minute int, want api.Errno) {
	t.Helper()
	if rows, e := seats.Map(q.h, q.l, minute); len(rows) != 0 || e != want {
		t.Errorf("%s: Map = %v, %d, not error %d", name, rows, e, want)
	}
	if n, e := seats.Largest(q.h, q.l, minute); n != 0 || e != want {
		t.Errorf("%s: Largest = %d, %d, not error %d", name, n, e, want)
	}
	if vain, e := seats.Vain(q.h, q.l, minute); len(vain) != 0 || e != want {
		t.Errorf("%s: Vain = %v, %d, not error %d", name, vain, e, want)
	}
}

func checkOrderError(t *testing.T, name string, q question, minute, order int, want api.Errno) {
	t.Helper()
	if p, e := seats.Order(q.h, q.l, minute, order); p != (api.Place{}) || e != want {
		t.Errorf("%s: Order = %v, %d, not error %d", name, p, e, want)
	}
}

func checkSizeErrors(t *testing.T, name string, q question, minute, size int, want api.Errno) {
	t.Helper()
	if row, seat, e := seats.Best(q.h, q.l, minute, size); row != 0 || seat != 0 || e != want {
		t.Errorf("%s: Best = %d, %d, %d, not error %d", name, row, seat, e, want)
	}
	if n, e := seats.Groups(q.h, q.l, minute, size); n != 0 || e != want {
		t.Errorf("%s: Groups = %d, %d, not error %d", name, n, e, want)
	}
}

func checkPackError(t *testing.T, name string, h api.Hall, sizes []int, want api.Errno) {
	t.Helper()
	if rows, e := seats.Pack(h, sizes); len(rows) != 0 || e != want {
		t.Errorf("%s: Pack = %v, %d, not error %d", name, rows, e, want)
	}
}

// P1: every function returns the error of the hall, then that of the calls, before any other one, with zero values.
func TestErrorsOfHalls(t *testing.T) {
	for name, x := range faulty() {
		q := example().with(x.change)
		checkErrors(t, name, q, 12, 1, 2, x.e)
		checkErrors(t, name, q, 0, 100, 13, x.e)
		checkErrors(t, name, q, -1, -1, 0, x.e)
	}
	for name, h := range faultyHalls() {
		checkPackError(t, name, h, nil, api.ErrHall)
		checkPackError(t, name, h, []int{1}, api.ErrHall)
		checkPackError(t, name, h, []int{13}, api.ErrHall)
	}
}

// P1: a minute, an order or a size that cannot be is ErrArg, before ErrNone.
func TestErrorsOfArguments(t *testing.T) {
	for _, q := range append(sound(), example()) {
		for _, minute := range []int{-1, 10000, math.MinInt, math.MaxInt} {
			checkErrors(t, "no minute", q, minute, 1, 2, api.ErrArg)
			checkErrors(t, "no minute", q, minute, 100, 12, api.ErrArg)
		}
		for _, order := range []int{-1, 100, math.MinInt, math.MaxInt} {
			checkOrderError(t, "no order", q, 12, order, api.ErrArg)
		}
		for _, size := range []int{0, -1, 13, math.MinInt, math.MaxInt} {
			checkSizeErrors(t, "no size", q, 12, size, api.ErrArg)
			checkSizeErrors(t, "no size", q, 9999, size, api.ErrArg)
		}
	}
	for _, size := range []int{0, -1, 13, math.MinInt, math.MaxInt} {
		checkPackError(t, "no size", exampleH(), []int{size}, api.ErrArg)
		checkPackError(t, "no size behind others", exampleH(), []int{5, 4, 4, size}, api.ErrArg)
	}
	checkPackError(t, "13 groups", newHall(1, 12, 12), slices.Repeat([]int{1}, 13), api.ErrArg)
	checkPackError(t, "13 groups that do not fit", newHall(1, 1), slices.Repeat([]int{12}, 13), api.ErrArg)
}

// The limits of minutes, orders and sizes are no errors.
func TestLimitsOfArguments(t *testing.T) {
	q := question{newHall(600, 12), []api.Call{ask(0, 0, 0, 5), ask(1, 9999, 99, 2)}}
	for _, x := range []struct {
		minute, order int
		want          api.Place
	}{
		{0, 0, api.Place{State: api.Held, Row: 0, Seat: 0, Size: 5}}, {0, 99, api.Place{State: api.Unheard, Row: -1, Seat: -1}},
		{9999, 0, api.Place{State: api.Lapsed, Row: -1, Seat: -1, Size: 5}}, {9999, 99, api.Place{State: api.Held, Row: 0, Seat: 0, Size: 2}},
	} {
		checkOrder(t, "at the limits", q, x.minute, x.order, x.want)
	}
	checkBest(t, "at the limits", q, 9999, 10, 0, 2, api.OK)
	checkBest(t, "at the limits", q, 9998, 12, 0, 0, api.OK)
	checkBest(t, "at the limits", q, 0, 12, 0, 0, api.ErrNone)
}

func checkOrder(t *testing.T, name string, q question, minute, order int, want api.Place) {
	t.Helper()
	if p, e := seats.Order(q.h, q.l, minute, order); p != want || e != api.OK {
		t.Errorf("%s: Order of %d after %d = %v, %d, not %v", name, order, minute, p, e, want)
	}
}

func checkMap(t *testing.T, name string, q question, minute int, want ...[]int) {
	t.Helper()
	if rows, e := seats.Map(q.h, q.l, minute); !slices.EqualFunc(rows, want, slices.Equal) || e != api.OK {
		t.Errorf("%s: Map after %d = %v, %d, not %v", name, minute, rows, e, want)
	}
}

func checkBest(t *testing.T, name string, q question, minute, size, row, seat int, e api.Errno) {
	t.Helper()
	if r, s, got := seats.Best(q.h, q.l, minute, size); r != row || s != seat || got != e {
		t.Errorf("%s: Best of %d after %d = %d, %d, %d, not %d, %d, %d", name, size, minute, r, s, got, row, seat, e)
	}
}

func checkVain(t *testing.T, name string, q question, minute int, want ...int) {
	t.Helper()
	if vain, e := seats.Vain(q.h, q.l, minute); !slices.Equal(vain, want) || e != api.OK {
		t.Errorf("%s: Vain up to %d = %v, %d, not %v", name, minute, vain, e, want)
	}
}

func seatless(state, size int) api.Place {
	return api.Place{State: state, Row: -1, Seat: -1, Size: size}
}

func seated(state, row, seat, size int) api.Place {
	return api.Place{State: state, Row: row, Seat: seat, Size: size}
}

// life is one hall of a row of 4 and a row of 2 seats, in which much happens to the orders 1 to 5.
func life() question {
	return question{newHall(5, 4, 2), []api.Call{
		drop(0, 0, 1), pay(1, 1, 1),
		ask(2, 2, 1, 3), ask(3, 2, 2, 3), ask(4, 2, 3, 2),
		ask(5, 3, 1, 1), drop(6, 3, 2), pay(7, 3, 2), ask(8, 3, 2, 1),
		pay(9, 4, 3), pay(10, 5, 3),
		ask(11, 6, 4, 1),
		pay(12, 7, 1), drop(13, 7, 1), ask(14, 7, 5, 3),
		drop(15, 8, 3), ask(16, 8, 3, 2), pay(17, 8, 3), drop(18, 9, 3),
		ask(19, 9, 1, 1), pay(20, 11, 5), pay(21, 30, 5), ask(22, 40, 5, 2),
	}}
}

// P4.2.
func TestOrder(t *testing.T) {
	q := example()
	for i, x := range []struct {
		q             question
		minute, order int
		want          api.Place
	}{
		{q, 12, 1, seated(api.Sold, 0, 0, 2)}, {q, 12, 2, seatless(api.Lapsed, 2)}, {q, 12, 4, seatless(api.Unheard, 0)},
		{q, 0, 1, seated(api.Held, 0, 0, 2)}, {q, 4, 1, seated(api.Held, 0, 0, 2)}, {q, 5, 1, seated(api.Sold, 0, 0, 2)}, {q, 9999, 1, seated(api.Sold, 0, 0, 2)},
		{q, 0, 2, seatless(api.Unheard, 0)}, {q, 1, 2, seated(api.Held, 0, 2, 2)}, {q, 10, 2, seated(api.Held, 0, 2, 2)}, {q, 11, 2, seatless(api.Lapsed, 2)},
		{q, 11, 3, seatless(api.Unheard, 0)}, {q, 12, 3, seated(api.Held, 0, 2, 3)}, {q, 21, 3, seated(api.Held, 0, 2, 3)}, {q, 22, 3, seatless(api.Lapsed, 3)},
		{life(), 1, 1, seatless(api.Unheard, 0)}, {life(), 2, 1, seated(api.Held, 0, 0, 3)}, {life(), 3, 1, seated(api.Held, 0, 0, 3)}, {life(), 6, 1, seated(api.Held, 0, 0, 3)},
		{life(), 7, 1, seatless(api.Lapsed, 3)}, {life(), 9, 1, seatless(api.Lapsed, 3)},
		{life(), 2, 2, seatless(api.Refused, 3)}, {life(), 3, 2, seatless(api.Refused, 3)}, {life(), 9999, 2, seatless(api.Refused, 3)},
		{life(), 3, 3, seated(api.Held, 1, 0, 2)}, {life(), 4, 3, seated(api.Sold, 1, 0, 2)}, {life(), 7, 3, seated(api.Sold, 1, 0, 2)}, {life(), 8, 3, seatless(api.Dropped, 2)}, {life(), 9, 3, seatless(api.Dropped, 2)}, {life(), 99, 3, seatless(api.Dropped, 2)},
		{life(), 6, 4, seated(api.Held, 0, 3, 1)}, {life(), 10, 4, seated(api.Held, 0, 3, 1)}, {life(), 11, 4, seatless(api.Lapsed, 1)},
		{life(), 7, 5, seated(api.Held, 0, 0, 3)}, {life(), 11, 5, seated(api.Sold, 0, 0, 3)}, {life(), 9999, 5, seated(api.Sold, 0, 0, 3)},
		{life(), 9999, 6, seatless(api.Unheard, 0)}, {life(), 9999, 0, seatless(api.Unheard, 0)}, {life(), 9999, 99, seatless(api.Unheard, 0)},
	} {
		checkOrder(t, fmt.Sprint("case ", i), x.q, x.minute, x.order, x.want)
	}
}

// P4.3.
func TestMap(t *testing.T) {
	q := example()
	checkMap(t, "example", q, 0, []int{1, 1, -1, -1, -1}, []int{-1, -1, -1})
	checkMap(t, "example", q, 1, []int{1, 1, 2, 2, -1}, []int{-1, -1, -1})
	checkMap(t, "example", q, 10, []int{1, 1, 2, 2, -1}, []int{-1, -1, -1})
	checkMap(t, "example", q, 11, []int{1, 1, -1, -1, -1}, []int{-1, -1, -1})
	checkMap(t, "example", q, 12, []int{1, 1, 3, 3, 3}, []int{-1, -1, -1})
	checkMap(t, "example", q, 21, []int{1, 1, 3, 3, 3}, []int{-1, -1, -1})
	checkMap(t, "example", q, 22, []int{1, 1, -1, -1, -1}, []int{-1, -1, -1})
	q = life()
	checkMap(t, "life", q, 1, []int{-1, -1, -1, -1}, []int{-1, -1})
	checkMap(t, "life", q, 3, []int{1, 1, 1, -1}, []int{3, 3})
	checkMap(t, "life", q, 6, []int{1, 1, 1, 4}, []int{3, 3})
	checkMap(t, "life", q, 7, []int{5, 5, 5, 4}, []int{3, 3})
	checkMap(t, "life", q, 8, []int{5, 5, 5, 4}, []int{-1, -1})
	checkMap(t, "life", q, 11, []int{5, 5, 5, -1}, []int{-1, -1})
	checkMap(t, "life", q, 9999, []int{5, 5, 5, -1}, []int{-1, -1})
	checkMap(t, "no calls", question{newHall(1, 1, 2), nil}, 5, []int{-1}, []int{-1, -1})
	checkMap(t, "the order 0", question{newHall(1, 2), []api.Call{ask(0, 0, 0, 1)}}, 0, []int{0, -1})
}

// P4.7.
func TestVain(t *testing.T) {
	checkVain(t, "example", example(), 12, 2)
	checkVain(t, "example", example(), 11, 2)
	checkVain(t, "example", example(), 10)
	q := life()
	checkVain(t, "life", q, 0)
	checkVain(t, "life", q, 1, 1)
	checkVain(t, "life", q, 2, 1)
	checkVain(t, "life", q, 3, 1, 2)
	checkVain(t, "life", q, 4, 1, 2)
	checkVain(t, "life", q, 5, 1, 2, 3)
	checkVain(t, "life", q, 29, 1, 2, 3)
	checkVain(t, "life", q, 30, 1, 2, 3, 5)
	checkVain(t, "life", q, 9999, 1, 2, 3, 5)
	many := question{newHall(3, 2), []api.Call{pay(1, 9, 99), pay(2, 4, 0), pay(3, 4, 99), pay(4, 7, 50), pay(5, 0, 50), pay(6, 1, 7)}}
	checkVain(t, "orders that never asked", many, 8, 0, 7, 50, 99)
	checkVain(t, "orders that never asked", many, 3, 7, 50)
	late := question{newHall(3, 4), []api.Call{ask(9, 4, 1, 1), pay(8, 6, 1), ask(7, 4, 2, 1), pay(6, 7, 2), ask(5, 4, 3, 2), drop(3, 6, 3), pay(4, 6, 3)}}
	checkVain(t, "just in time, too late, and dropped", late, 7, 2, 3)
}

// Equal calls count once: who pays by the same call again has not paid in vain.
func TestEqualCalls(t *testing.T) {
	l := []api.Call{ask(0, 3, 5, 2), pay(1, 3, 5), ask(0, 3, 5, 2), pay(1, 3, 5), pay(1, 3, 5)}
	q := question{newHall(2, 4), l}
	checkVain(t, "paid by a call that came three times", q, 9)
	checkOrder(t, "paid by a call that came three times", q, 9, 5, seated(api.Sold, 0, 0, 2))
	again := q.with(func(q *question) { q.l = append(q.l, pay(2, 3, 5)) })
	checkVain(t, "paid by two calls", again, 9, 5)
	checkOrder(t, "paid by two calls", again, 9, 5, seated(api.Sold, 0, 0, 2))
}

// Calls of the same minute are heard in the order of their Ids, whatever their kind.
func TestSameMinute(t *testing.T) {
	h := newHall(5, 2)
	first := question{h, []api.Call{ask(8, 7, 1, 2), ask(3, 7, 2, 2)}}
	checkMap(t, "two ask", first, 7, []int{2, 2})
	checkOrder(t, "two ask", first, 7, 1, seatless(api.Refused, 2))
	dropped := first.with(func(q *question) { q.l = append(q.l, drop(5, 7, 2)) })
	checkMap(t, "dropped before another asks", dropped, 7, []int{1, 1})
	tooLate := first.with(func(q *question) { q.l = append(q.l, drop(9, 7, 2)) })
	checkMap(t, "dropped behind another that asked", tooLate, 7, []int{-1, -1})
	checkOrder(t, "dropped behind another that asked", tooLate, 7, 1, seatless(api.Refused, 2))
	lapsed := question{h, []api.Call{ask(9, 0, 1, 2), ask(1, 5, 2, 2), pay(0, 5, 1)}}
	checkMap(t, "asked when another lapses", lapsed, 5, []int{2, 2})
	checkVain(t, "asked when another lapses", lapsed, 5, 1)
	inTime := question{h, []api.Call{ask(9, 0, 1, 2), ask(1, 4, 2, 2), pay(0, 4, 1)}}
	checkMap(t, "paid in the last minute", inTime, 9, []int{1, 1})
	checkOrder(t, "paid in the last minute", inTime, 9, 2, seatless(api.Refused, 2))
}

// An order that asks again gets no other seats, whatever became of it, and keeps its size.
func TestAskAgain(t *testing.T) {
	h := newHall(4, 3, 6)
	asks := func(l ...api.Call) question { return question{h, append(l, ask(90, 8, 1, 1))} }
	checkOrder(t, "held", asks(ask(0, 7, 1, 2)), 8, 1, seated(api.Held, 1, 0, 2))
	checkOrder(t, "held since it first asked", asks(ask(0, 7, 1, 2)), 11, 1, seatless(api.Lapsed, 2))
	checkOrder(t, "sold", asks(ask(0, 7, 1, 2), pay(1, 7, 1)), 8, 1, seated(api.Sold, 1, 0, 2))
	checkOrder(t, "lapsed", asks(ask(0, 4, 1, 2)), 8, 1, seatless(api.Lapsed, 2))
	checkOrder(t, "dropped", asks(ask(0, 7, 1, 2), drop(1, 7, 1)), 8, 1, seatless(api.Dropped, 2))
	checkOrder(t, "refused", asks(ask(0, 7, 1, 7)), 8, 1, seatless(api.Refused, 7))
	checkOrder(t, "dropped before", asks(drop(0, 7, 1)), 8, 1, seated(api.Held, 0, 0, 1))
	checkOrder(t, "paid before", asks(pay(0, 7, 1)), 8, 1, seated(api.Held, 0, 0, 1))
}

// An order that has no seats is not dropped.
func TestDropInVain(t *testing.T) {
	h := newHall(4, 3, 6)
	drops := func(l ...api.Call) question { return question{h, append(l, drop(90, 8, 1))} }
	checkOrder(t, "unheard", drops(), 8, 1, seatless(api.Unheard, 0))
	checkOrder(t, "lapsed", drops(ask(0, 4, 1, 2)), 8, 1, seatless(api.Lapsed, 2))
	checkOrder(t, "refused", drops(ask(0, 7, 1, 7)), 8, 1, seatless(api.Refused, 7))
	checkOrder(t, "dropped", drops(ask(0, 7, 1, 2), drop(1, 7, 1)), 8, 1, seatless(api.Dropped, 2))
	checkOrder(t, "held", drops(ask(0, 7, 1, 2)), 8, 1, seatless(api.Dropped, 2))
	checkOrder(t, "sold", drops(ask(0, 7, 1, 2), pay(1, 7, 1)), 8, 1, seatless(api.Dropped, 2))
	checkVain(t, "nobody paid", drops(ask(0, 4, 1, 2)), 8)
	others := drops(ask(0, 7, 1, 2), ask(1, 7, 2, 3), ask(2, 7, 3, 2), pay(3, 7, 2))
	checkMap(t, "one is dropped, the others keep their seats", others, 8, []int{2, 2, 2}, []int{-1, -1, 3, 3, -1, -1})
}
