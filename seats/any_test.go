package seats_test

import (
	"math"
	"math/rand"
	"slices"
	"testing"

	"bijou/api"
	"bijou/seats"
)

// P4.2 to P4.7: all functions agree with an evening that is lived through minute by minute.
func TestAgainstEachMinute(t *testing.T) {
	rnd := rand.New(rand.NewSource(1))
	states, vain := map[int]int{}, 0
	for range 150 {
		base := randomBase(rnd)
		q := question{randomHall(rnd), randomCalls(rnd, base, 25)}
		eachMinute(q.h, q.l, lastMinute(base), func(minute int, v evening) {
			compareOrders(t, q, minute, v, states)
			compareSeats(t, q, minute, v)
			vain += len(v.vain)
		})
	}
	for state := api.Unheard; state <= api.Dropped; state++ {
		if states[state] < 500 {
			t.Errorf("the state %d came only %d times", state, states[state])
		}
	}
	if vain < 500 {
		t.Errorf("only %d times somebody has paid in vain", vain)
	}
}

func compareOrders(t *testing.T, q question, minute int, v evening, states map[int]int) {
	t.Helper()
	for order := range someOrders {
		want := v.of(order)
		states[want.State]++
		if p, e := seats.Order(q.h, q.l, minute, order); p != want || e != api.OK {
			t.Errorf("Order of %d after %d of %v = %v, %d, not %v", order, minute, q, p, e, want)
		}
	}
	if vain, e := seats.Vain(q.h, q.l, minute); !slices.Equal(vain, v.vainOrders()) || e != api.OK {
		t.Errorf("Vain up to %d of %v = %v, %d, not %v", minute, q, vain, e, v.vainOrders())
	}
}

func compareSeats(t *testing.T, q question, minute int, v evening) {
	t.Helper()
	if rows, e := seats.Map(q.h, q.l, minute); !slices.EqualFunc(rows, v.seats, slices.Equal) || e != api.OK {
		t.Errorf("Map after %d of %v = %v, %d, not %v", minute, q, rows, e, v.seats)
	}
	if n, e := seats.Largest(q.h, q.l, minute); n != v.largest() || e != api.OK {
		t.Errorf("Largest after %d of %v = %d, %d, not %d", minute, q, n, e, v.largest())
	}
	for size := 1; size <= 9; size++ {
		row, seat, ok := v.best(size)
		want := api.OK
		if !ok {
			want = api.ErrNone
		}
		if r, s, e := seats.Best(q.h, q.l, minute, size); r != row || s != seat || e != want {
			t.Errorf("Best of %d after %d of %v = %d, %d, %d, not %d, %d, %d", size, minute, q, r, s, e, row, seat, want)
		}
		if n, e := seats.Groups(q.h, q.l, minute, size); n != v.groups(size) || e != api.OK {
			t.Errorf("Groups of %d after %d of %v = %d, %d, not %d", size, minute, q, n, e, v.groups(size))
		}
	}
}

// A hall and calls at all limits have answers like others.
func TestFull(t *testing.T) {
	q := full()
	for _, minute := range []int{0, 9997, 9998, 9999} {
		v := after(q.h, q.l, minute)
		compareSeats(t, q, minute, v)
		for order := range api.MaxId + 1 {
			checkOrder(t, "full", q, minute, order, v.of(order))
		}
		checkVain(t, "full", q, minute, v.vainOrders()...)
	}
}

// P1 and R4: no call changes its argument, or shares memory with it or with another result.
func TestMemory(t *testing.T) {
	for i, q := range append(sound(), life()) {
		before, all := q.clone(), answers(q.h, q.l, 12)
		sizes := []int{1, 1}
		spoil(seats.Pack(q.h, sizes[:min(2, q.h.Rows[0])]))
		spoil(seats.Vain(q.h, q.l, 12))
		rows, _ := seats.Map(q.h, q.l, 12)
		checkRowsApart(t, rows)
		spoil(rows, api.OK)
		if !q.equal(before) || !slices.Equal(sizes, []int{1, 1}) {
			t.Errorf("%d: %v was changed to %v, and the groups to %v", i, before, q, sizes)
		}
		if answers(q.h, q.l, 12) != all {
			t.Errorf("%d: %v has other answers than before", i, q)
		}
	}
}

// checkRowsApart spoils one row after the other, and tells whether the next ones stay as they were.
func checkRowsApart(t *testing.T, rows [][]int) {
	t.Helper()
	var before [][]int
	for _, row := range rows {
		before = append(before, slices.Clone(row))
	}
	for n, row := range rows {
		if !slices.Equal(row, before[n]) {
			t.Errorf("two rows of %v share memory", before)
		}
		spoil(row, api.OK)
	}
}

// spoil overwrites all that a call returned, and what may lie behind it.
func spoil[T any](l []T, _ api.Errno) {
	var other T
	if n, ok := any(&other).(*int); ok {
		*n = 77
	}
	l = l[:cap(l)]
	for i := range l {
		l[i] = other
	}
}

// R3: nil and empty slices are the same.
func TestNilAndEmpty(t *testing.T) {
	h := exampleH()
	if answers(h, nil, 5) != answers(h, []api.Call{}, 5) {
		t.Errorf("without calls the answers are %v, and %v", answers(h, nil, 5), answers(h, []api.Call{}, 5))
	}
	checkPacked(t, h)
	checkPacked(t, h, []int{}...)
	checkErrors(t, "nil rows", question{h: api.Hall{Hold: 1}}, 0, 0, 1, api.ErrHall)
	checkErrors(t, "empty rows", question{h: api.Hall{Rows: []int{}, Hold: 1}}, 0, 0, 1, api.ErrHall)
}

// P1: with any numbers at all every call returns, and an error comes with zero values.
func TestAnyArguments(t *testing.T) {
	rnd := rand.New(rand.NewSource(4))
	odd := func(n int) int {
		if rnd.Intn(150) == 0 {
			return []int{math.MinInt, math.MaxInt, -1, 100, 10000, 1 << 32}[rnd.Intn(6)]
		}
		return n
	}
	sound := 0
	for range 5000 {
		q := question{randomHall(rnd), randomCalls(rnd, randomBase(rnd), 25)}
		q.h.Rows[0], q.h.Hold = odd(q.h.Rows[0]), odd(q.h.Hold)
		for i, c := range q.l {
			q.l[i] = api.Call{Id: odd(c.Id), At: odd(c.At), Kind: odd(c.Kind), Order: odd(c.Order), Size: odd(c.Size)}
		}
		minute, order, size := odd(rnd.Intn(40)), odd(rnd.Intn(5)), odd(1+rnd.Intn(12))
		if e := seats.Check(q.h, q.l); e != api.OK {
			checkErrors(t, "any hall", q, minute, order, size, e)
			continue
		}
		sound++
		checkAnyCalls(t, q, minute, order, size)
	}
	if sound < 500 || sound > 4500 {
		t.Errorf("%d of 5000 halls are sound", sound)
	}
}

func checkAnyCalls(t *testing.T, q question, minute, order, size int) {
	t.Helper()
	if p, e := seats.Order(q.h, q.l, minute, order); e != api.OK && p != (api.Place{}) {
		t.Errorf("Order of %v = %v, %d", q, p, e)
	}
	if row, seat, e := seats.Best(q.h, q.l, minute, size); e != api.OK && (row != 0 || seat != 0) {
		t.Errorf("Best of %v = %d, %d, %d", q, row, seat, e)
	}
	if n, e := seats.Groups(q.h, q.l, minute, size); e != api.OK && n != 0 {
		t.Errorf("Groups of %v = %d, %d", q, n, e)
	}
	if rows, e := seats.Pack(q.h, []int{size, order, minute}); e != api.OK && len(rows) != 0 {
		t.Errorf("Pack of %v = %v, %d", q, rows, e)
	}
}
