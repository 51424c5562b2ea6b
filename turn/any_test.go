package turn_test

import (
	"math"
	"math/rand"
	"slices"
	"testing"

	"bijou/api"
	"bijou/turn"
)

// P1 and R4: no call changes its argument, or shares memory with it or with another result.
func TestMemory(t *testing.T) {
	easy := plain(at(0, 100, 10, 1), at(1, 100, 10, 1), at(0, 300, 10, 1))
	for i, q := range append(sound(), easy) {
		before := q.clone()
		// Room behind the slots, into which nothing may be written.
		room := append(slices.Clone(q.l), newSlot(7, 7, 7, 7, 7, 7))
		q.l = room[:len(q.l):len(room)]
		times, _ := turn.Times(q.h, q.l)
		teams, _ := turn.Assign(q.h, q.l)
		was, had := slices.Clone(times), slices.Clone(teams)
		spoil(turn.Times(q.h, q.l))
		spoil(turn.Assign(q.h, q.l))
		turn.Check(q.h, q.l)
		turn.Late(q.h, q.l)
		turn.Waiting(q.h, q.l, 50)
		turn.Crowded(q.h, q.l)
		turn.Fewest(q.h, q.l)
		turn.Next(q.h, q.l, newSlot(1, 0, 1, 1, 1, 0))
		if !slices.Equal(times, was) || !slices.Equal(teams, had) {
			t.Errorf("%d: %v was changed to %v, and %v to %v", i, was, times, had, teams)
		}
		if !slices.Equal(q.l, before.l) || room[len(q.l)] != newSlot(7, 7, 7, 7, 7, 7) {
			t.Errorf("%d: %v was changed to %v", i, before.l, room)
		}
		if again, _ := turn.Assign(q.h, q.l); !slices.Equal(again, teams) || !slices.Equal(timesOf(q), times) {
			t.Errorf("%d: Assign is %v, then %v", i, teams, again)
		}
	}
}

// spoil overwrites all that a call returned, and what may lie behind it.
func spoil[T any](l []T, _ api.Errno) {
	var other T
	if n, ok := any(&other).(*int); ok {
		*n = 77
	}
	l = l[:cap(l)]
	for i := range l {
		l[i] = other
	}
}

// R3: nil and empty slices are the same.
func TestNilAndEmpty(t *testing.T) {
	for _, l := range [][]api.Slot{nil, {}} {
		q := question{exampleH(), l}
		checkTimes(t, "no slots", q)
		checkLate(t, "no slots", q, -1, 0)
		checkWaiting(t, "no slots", q, 9999, span(0, 0))
		checkCrowded(t, "no slots", q, -1)
		checkAssign(t, "no slots", q)
		checkFewest(t, "no slots", q, 1)
		checkNext(t, "no slots", q, newSlot(0, 0, 1, 1, 0, 0), 0)
	}
}

// odd returns a number, or sometimes one that cannot be.
func odd(rnd *rand.Rand, n int) int {
	if rnd.Intn(150) == 0 {
		return []int{math.MinInt, math.MaxInt, -1, 0, 501, 10000, 1 << 32}[rnd.Intn(7)]
	}
	return n
}

func oddSpan(rnd *rand.Rand, s api.Span) api.Span { return span(odd(rnd, s.Low), odd(rnd, s.High)) }

func oddSlot(rnd *rand.Rand, s api.Slot) api.Slot {
	return api.Slot{Screen: odd(rnd, s.Screen), Begin: odd(rnd, s.Begin), Runs: oddSpan(rnd, s.Runs), Crowd: odd(rnd, s.Crowd), Team: odd(rnd, s.Team)}
}

// P1: with any numbers at all every call returns, and an error comes with zero values.
func TestAnyArguments(t *testing.T) {
	rnd := rand.New(rand.NewSource(4))
	sound := 0
	for range 10000 {
		q := randomQuestion(rnd, 13)
		h := q.h
		q.h = api.House{Teams: odd(rnd, h.Teams), Walk: odd(rnd, h.Walk), Early: odd(rnd, h.Early), Foyer: odd(rnd, h.Foyer), Doors: oddSpan(rnd, h.Doors), Clean: oddSpan(rnd, h.Clean)}
		for n, s := range q.l {
			q.l[n] = oddSlot(rnd, s)
		}
		minute, s := odd(rnd, rnd.Intn(300)), oddSlot(rnd, randomSlot(rnd, h))
		if e := turn.Check(q.h, q.l); e != api.OK {
			checkErrors(t, "any house", q, minute, s, e)
			continue
		}
		sound++
		checkAnyCalls(t, q, minute, s)
	}
	if sound < 3000 || sound > 8000 {
		t.Errorf("%d of 10000 houses are sound", sound)
	}
}

func checkAnyCalls(t *testing.T, q question, minute int, s api.Slot) {
	t.Helper()
	if l, e := turn.Times(q.h, q.l); len(l) != len(q.l) || e != api.OK {
		t.Errorf("Times of %v = %v, %d", q, l, e)
	}
	if slot, by, e := turn.Late(q.h, q.l); slot < -1 || slot >= len(q.l) || (slot == -1) != (by == 0) || by < 0 || e != api.OK {
		t.Errorf("Late of %v = %d, %d, %d", q, slot, by, e)
	}
	if n, e := turn.Waiting(q.h, q.l, minute); n.Low < 0 || n.High < n.Low || e != api.OK && (n != api.Span{} || e != api.ErrArg) {
		t.Errorf("Waiting of %v at %d = %v, %d", q, minute, n, e)
	}
	if n, e := turn.Crowded(q.h, q.l); n < -1 || n > api.MaxBegin || e != api.OK {
		t.Errorf("Crowded of %v = %d, %d", q, n, e)
	}
	teams, e := turn.Assign(q.h, q.l)
	fewest, f := turn.Fewest(q.h, q.l)
	if (e == api.OK) != (f == api.OK && fewest <= q.h.Teams) || e != api.OK && (len(teams) != 0 || e != api.ErrNone) || f != api.OK && (fewest != 0 || f != api.ErrNone) {
		t.Errorf("Assign of %v = %v, %d; Fewest = %d, %d", q, teams, e, fewest, f)
	}
	if n, e := turn.Next(q.h, q.l, s); n < 0 || n > api.MaxBegin || e != api.OK && (n != 0 || e != api.ErrArg && e != api.ErrNone) {
		t.Errorf("Next of %v in %v = %d, %d", s, q, n, e)
	}
}
