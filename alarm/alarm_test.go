package alarm_test

import (
	"slices"
	"strconv"
	"testing"

	"bijou/alarm"
	"bijou/api"
)

// P11.1: Check returns ErrBuilding unless a house is valid.
func TestCheck(t *testing.T) {
	for name, change := range faulty() {
		if e := alarm.Check(with(exampleH(), change)); e != api.ErrBuilding {
			t.Errorf("%s: Check = %d, not ErrBuilding", name, e)
		}
	}
	for n, h := range sound() {
		if e := alarm.Check(h); e != api.OK {
			t.Errorf("sound house %d: Check = %d", n, e)
		}
	}
}

func checkGoneError(t *testing.T, name string, h api.Building, minute int, l []api.Move, want api.Errno) {
	t.Helper()
	if n, e := alarm.Gone(h, minute, l); n != 0 || e != want {
		t.Errorf("%s: Gone up to %d by %v = %d, %d, not error %d", name, minute, l, n, e, want)
	}
}

// checkPlanErrors tells whether all calls about the best plan return an error, with zero values.
func checkPlanErrors(t *testing.T, name string, h api.Building, minute int, want api.Errno) {
	t.Helper()
	if n, e := alarm.Most(h, minute); n != 0 || e != want {
		t.Errorf("%s: Most up to %d = %d, %d, not error %d", name, minute, n, e, want)
	}
	if l, e := alarm.Plan(h, minute); len(l) != 0 || e != want {
		t.Errorf("%s: Plan up to %d = %v, %d, not error %d", name, minute, l, e, want)
	}
	if l, e := alarm.Proof(h, minute); len(l) != 0 || e != want {
		t.Errorf("%s: Proof up to %d = %v, %d, not error %d", name, minute, l, e, want)
	}
	if l, e := alarm.Needed(h, minute); len(l) != 0 || e != want {
		t.Errorf("%s: Needed up to %d = %v, %d, not error %d", name, minute, l, e, want)
	}
}

func checkEmptyError(t *testing.T, name string, h api.Building, want api.Errno) {
	t.Helper()
	if n, e := alarm.Empty(h); n != 0 || e != want {
		t.Errorf("%s: Empty = %d, %d, not error %d", name, n, e, want)
	}
}

func checkShutError(t *testing.T, name string, h api.Building, passage int, want api.Errno) {
	t.Helper()
	if g, e := alarm.Shut(h, passage); !equal(g, api.Building{}) || e != want {
		t.Errorf("%s: Shut of %d = %v, %d, not error %d", name, passage, g, e, want)
	}
}

// P1: every function returns ErrBuilding before any other error, with zero values.
func TestErrorsOfBuildings(t *testing.T) {
	for name, change := range faulty() {
		for _, h := range []api.Building{with(exampleH(), change), with(with(exampleH(), func(h *api.Building) { h.Passages[1].Width, h.Passages[2].Width = 0, 0 }), change)} {
			for _, minute := range []int{0, 3, 60, -1, 61} {
				checkPlanErrors(t, name, h, minute, api.ErrBuilding)
				for _, l := range [][]api.Move{nil, exampleL(), {move(0, 9, 1)}, {move(0, 0, 1000)}} {
					checkGoneError(t, name, h, minute, l, api.ErrBuilding)
				}
			}
			for _, number := range []int{0, 3, -1, 4, 12} {
				checkShutError(t, name, h, number, api.ErrBuilding)
			}
			checkEmptyError(t, name, h, api.ErrBuilding)
		}
	}
}

// P11.2 to P11.5, P11.8 and P1: a minute that is not from 0 to MaxMinutes is ErrArg, before ErrMove.
func TestErrorsOfMinutes(t *testing.T) {
	for number, h := range sound() {
		for how, n := range outside(0, 60) {
			name := "house " + strconv.Itoa(number) + ", a minute " + how
			checkPlanErrors(t, name, h, n, api.ErrArg)
			for _, l := range [][]api.Move{nil, exampleL(), {move(0, 12, 1)}, {move(n, 0, 1)}} {
				checkGoneError(t, name, h, n, l, api.ErrArg)
			}
		}
	}
}

// P11.7 and P1: a passage that is not there is ErrArg.
func TestErrorsOfPassages(t *testing.T) {
	for number, h := range sound() {
		for how, n := range outside(0, len(h.Passages)-1) {
			checkShutError(t, "house "+strconv.Itoa(number)+", a passage "+how, h, n, api.ErrArg)
		}
	}
	checkShutError(t, "no passages", house([]int{1}), 0, api.ErrArg)
	checkShutError(t, "outside", exampleH(), api.Outside, api.ErrArg)
}

// P11.2 and P1: moves that are no plan are ErrMove.
func TestErrorsOfMoves(t *testing.T) {
	for name, l := range faultyMoves() {
		checkGoneError(t, name, exampleH(), 3, l, api.ErrMove)
	}
	checkGoneError(t, "no passages", house([]int{9}), 9, []api.Move{move(0, 0, 1)}, api.ErrMove)
	checkGoneError(t, "a passage of no width", hall(9, 0, 1), 9, []api.Move{move(0, 0, 1)}, api.ErrMove)
	checkGoneError(t, "an empty room", hall(0, 9, 1), 9, []api.Move{move(0, 0, 1)}, api.ErrMove)
	checkGoneError(t, "the minute 0", hall(9, 9, 1), 0, []api.Move{move(0, 0, 1)}, api.ErrMove)
	checkGoneError(t, "a minute too late", hall(9, 9, 9), 60, []api.Move{move(52, 0, 1)}, api.ErrMove)
	checkGoneError(t, "too early for the walk", hall(9, 9, 9), 8, []api.Move{move(0, 0, 1)}, api.ErrMove)
	checkGoneError(t, "passages on and on", row(9, 9, 2), 60, []api.Move{move(0, 5, 9), move(2, 4, 9), move(3, 3, 1)}, api.ErrMove)
}

// P1: if there are several errors in moves, or a move that is fine stands before or behind, it is ErrMove all the same.
func TestFineAndFaultyMoves(t *testing.T) {
	for name, l := range faultyMoves() {
		fine := []api.Move{move(1, 3, 1)}
		checkGoneError(t, name+", behind a fine one", exampleH(), 3, slices.Concat(fine, l), api.ErrMove)
		checkGoneError(t, name+", before a fine one", exampleH(), 3, slices.Concat(l, fine), api.ErrMove)
		checkGoneError(t, name+", twice", exampleH(), 3, slices.Concat(l, l), api.ErrMove)
	}
}

func checkGone(t *testing.T, name string, h api.Building, minute int, want int, l ...api.Move) {
	t.Helper()
	if n, e := alarm.Gone(h, minute, l); n != want || e != api.OK {
		t.Errorf("%s: Gone of %v up to %d by %v = %d, %d, not %d", name, h, minute, l, n, e, want)
	}
}

func checkMost(t *testing.T, name string, h api.Building, minute, want int) {
	t.Helper()
	if n, e := alarm.Most(h, minute); n != want || e != api.OK {
		t.Errorf("%s: Most of %v up to %d = %d, %d, not %d", name, h, minute, n, e, want)
	}
	checkPlan(t, name, h, minute, want)
	checkProof(t, name, h, minute, want)
}

// checkPlan tells whether Plan is a plan by which so many people are out.
func checkPlan(t *testing.T, name string, h api.Building, minute, want int) {
	t.Helper()
	l, e := alarm.Plan(h, minute)
	if e != api.OK || !isPlan(h, minute, l) || outBy(h, minute, l) != want {
		t.Errorf("%s: Plan of %v up to %d = %v, %d, not one for %d", name, h, minute, l, e, want)
	}
	checkGone(t, name, h, minute, want, l...)
}

// checkProof tells whether Proof shows that no plan has more people out than said.
func checkProof(t *testing.T, name string, h api.Building, minute, want int) {
	t.Helper()
	l, e := alarm.Proof(h, minute)
	if e != api.OK || !areHours(h, minute, l) || boundBy(h, minute, l) != want {
		t.Errorf("%s: Proof of %v up to %d = %v, %d, which does not show %d", name, h, minute, l, e, want)
	}
}

func checkEmpty(t *testing.T, name string, h api.Building, want int) {
	t.Helper()
	if n, e := alarm.Empty(h); n != want || e != api.OK {
		t.Errorf("%s: Empty of %v = %d, %d, not %d", name, h, n, e, want)
	}
}

func checkNeeded(t *testing.T, name string, h api.Building, minute int, want ...int) {
	t.Helper()
	if l, e := alarm.Needed(h, minute); !slices.Equal(l, want) || e != api.OK {
		t.Errorf("%s: Needed of %v and %d = %v, %d, not %v", name, h, minute, l, e, want)
	}
}

// P11.2 to P11.8: the examples of the chapter.
func TestExamples(t *testing.T) {
	h := exampleH()
	for minute, want := range []int{0, 3, 7, 9, 9} {
		checkMost(t, "H", h, minute, want)
	}
	checkEmpty(t, "H", h, 3)
	g, e := alarm.Shut(h, 2)
	if e != api.OK {
		t.Errorf("Shut of H and 2: %d", e)
	}
	checkEmpty(t, "H with 2 shut", g, 10)
	checkNeeded(t, "H", h, 3, 0, 1, 2)
	checkNeeded(t, "H", h, 4, 0, 2)
	checkNeeded(t, "H", h, 12)
	checkGone(t, "H", h, 2, 7, exampleL()...)
}

// P11.2: plans, and how many people are out by them.
func TestGone(t *testing.T) {
	h := exampleH()
	checkGone(t, "nobody moves", h, 0, 0)
	checkGone(t, "nobody moves", h, 60, 0)
	checkGone(t, "nobody comes out", h, 3, 0, move(0, 0, 2), move(0, 3, 1))
	checkGone(t, "some in two moves", h, 2, 7, move(0, 0, 1), move(1, 2, 2), move(0, 2, 1), move(0, 1, 1), move(0, 0, 1), move(1, 2, 1), move(0, 2, 2))
	checkGone(t, "the last first", h, 2, 7, move(1, 2, 3), move(0, 2, 3), move(0, 1, 1), move(0, 0, 2))
	checkGone(t, "who comes goes on at once", h, 3, 6, move(0, 0, 2), move(0, 2, 3), move(1, 2, 3))
	checkGone(t, "who comes waits", h, 9, 6, move(0, 0, 2), move(0, 2, 3), move(8, 2, 3))
	checkGone(t, "all who are there and come", h, 3, 6, move(0, 2, 3), move(0, 0, 2), move(1, 2, 3))
	checkGone(t, "who comes from the other room", h, 3, 2, move(0, 0, 2), move(0, 1, 1), move(1, 0, 2), move(1, 1, 1), move(0, 3, 1))
	checkGone(t, "there and back", h, 4, 1, move(0, 0, 2), move(1, 3, 1), move(2, 1, 1))
	checkGone(t, "at the last minute", h, 3, 4, move(2, 2, 3), move(1, 1, 1))
	checkGone(t, "into a room at the last minute", h, 3, 3, move(2, 0, 2), move(2, 2, 3))
	checkGone(t, "no people, no moves", hall(0, 20, 1), 60, 0)
	checkGone(t, "the last walk", hall(9, 9, 9), 60, 9, move(51, 0, 9))
	checkGone(t, "the shortest time", hall(9, 9, 9), 9, 9, move(0, 0, 9))
	checkGone(t, "the same passage twice", house([]int{4}, passage(0, -1, 2, 1), passage(0, -1, 2, 1)), 1, 4, move(0, 0, 2), move(0, 1, 2))
	checkGone(t, "passages on and on", row(9, 9, 2), 12, 9, move(0, 5, 9), move(2, 4, 9), move(4, 3, 9), move(6, 2, 9), move(8, 1, 9), move(10, 0, 9))
	everyone := []api.Move{}
	for minute := range 99 / 20 {
		everyone = append(everyone, move(minute, 0, 20))
	}
	checkGone(t, "a full hall", hall(99, 20, 9), 60, 80, everyone...)
	checkGone(t, "a full hall", hall(99, 20, 9), 60, 99, append(everyone, move(51, 0, 19))...)
	checkGoneError(t, "a full hall", hall(99, 20, 9), 60, append(everyone, move(51, 0, 20)), api.ErrMove)
}

// P11.3 to P11.5: as many as can be are out, and a plan and hours prove it.
func TestMost(t *testing.T) {
	for minute, want := range []int{0, 3, 6, 9, 10, 10} {
		checkMost(t, "a hall", hall(10, 3, 1), minute, want)
	}
	for minute, want := range []int{0, 0, 0, 0, 3, 6, 9, 10, 10} {
		checkMost(t, "a long way outside", hall(10, 3, 4), minute, want)
	}
	for minute, want := range []int{0, 0, 0, 0, 0, 0, 3, 6, 7, 7} {
		checkMost(t, "rooms one behind the other", row(7, 3, 1), minute, want)
	}
	checkMost(t, "no passages", house([]int{9}), 60, 0)
	checkMost(t, "nobody", hall(0, 20, 1), 60, 0)
	checkMost(t, "nobody in many rooms", row(0, 20, 1), 60, 0)
	checkMost(t, "no width", hall(9, 0, 1), 60, 0)
	checkMost(t, "a room that leads nowhere", hopeless(), 60, 5)
	checkMost(t, "the last minute", hall(99, 1, 9), 60, 52)
	checkMost(t, "the last minute", hall(99, 1, 1), 60, 60)
	checkMost(t, "two passages", house([]int{9}, passage(0, -1, 2, 1), passage(0, -1, 3, 2)), 2, 7)
	checkMost(t, "the same passage twice", house([]int{9}, passage(0, -1, 2, 1), passage(0, -1, 2, 1)), 2, 8)
	for minute, want := range map[int]int{8: 0, 9: 120, 10: 240, 11: 360, 12: 480, 13: 594, 60: 594} {
		checkMost(t, "all limits", full(), minute, want)
	}
	checkMost(t, "a long row", row(99, 20, 9), 57, 80)
	checkMost(t, "a long row", row(99, 20, 9), 58, 99)
}

// P11.3 to P11.5: the short way outside is left to those who have no other one.
func TestWayForOthers(t *testing.T) {
	h := house([]int{3, 3}, passage(0, 1, 3, 1), passage(0, -1, 3, 2), passage(1, -1, 3, 1))
	checkMost(t, "up to 1", h, 1, 3)
	checkMost(t, "up to 2", h, 2, 6)
	checkNeeded(t, "one of two ways", h, 2, 2)
	// Who is in the room 0 must not take the passage that is the only one from the room 1, in each of its minutes.
	narrow := house([]int{2, 2, 0}, passage(0, 2, 2, 1), passage(1, 2, 1, 1), passage(2, -1, 1, 1), passage(0, -1, 1, 3))
	checkMost(t, "narrow", narrow, 3, 3)
	checkMost(t, "narrow", narrow, 4, 4)
	checkEmpty(t, "narrow", narrow, 4)
	// The longer way has to be begun before the shorter one is free.
	longer := house([]int{4}, passage(0, -1, 1, 1), passage(0, -1, 1, 3))
	for minute, want := range []int{0, 1, 2, 4, 4} {
		checkMost(t, "longer", longer, minute, want)
	}
}

// P11.3 to P11.5: every house has a plan and hours with the same number at every minute.
func TestEveryMinute(t *testing.T) {
	for number, h := range sound() {
		for minute := range api.MaxMinutes + 1 {
			n, e := alarm.Most(h, minute)
			if e != api.OK {
				t.Errorf("house %d: Most up to %d: %d", number, minute, e)
			}
			checkMost(t, "house "+strconv.Itoa(number), h, minute, n)
		}
	}
}

// P11.6: the first minute up to which all can be out, if there is one.
func TestEmpty(t *testing.T) {
	checkEmpty(t, "nobody", hall(0, 0, 9), 0)
	checkEmpty(t, "nobody, no passages", house(make([]int, 6)), 0)
	checkEmpty(t, "one", hall(1, 1, 1), 1)
	checkEmpty(t, "one, a long walk", hall(1, 20, 9), 9)
	checkEmpty(t, "just as many", hall(6, 3, 1), 2)
	checkEmpty(t, "one more", hall(7, 3, 1), 3)
	checkEmpty(t, "the last minute", hall(60, 1, 1), 60)
	checkEmpty(t, "the minute before", hall(59, 1, 1), 59)
	checkEmptyError(t, "a minute too late", hall(61, 1, 1), api.ErrNone)
	checkEmpty(t, "the last walk", hall(52, 1, 9), 60)
	checkEmptyError(t, "a walk too late", hall(53, 1, 9), api.ErrNone)
	checkEmptyError(t, "no passages", house([]int{1}), api.ErrNone)
	checkEmptyError(t, "no width", hall(1, 0, 1), api.ErrNone)
	checkEmptyError(t, "a room that leads nowhere", hopeless(), api.ErrNone)
	checkEmptyError(t, "only round and round", house([]int{1, 0}, passage(0, 1, 1, 1), passage(1, 0, 1, 1)), api.ErrNone)
	checkEmpty(t, "a long row", row(99, 20, 9), 58)
	checkEmpty(t, "a short row", row(7, 3, 1), 8)
	checkEmpty(t, "all limits", full(), 13)
}

// P11.7: one passage has no Width, and all else is as before.
func TestShut(t *testing.T) {
	for number, h := range sound() {
		for n := range h.Passages {
			g, e := alarm.Shut(h, n)
			want := with(h, func(h *api.Building) { h.Passages[n].Width = 0 })
			if !equal(g, want) || e != api.OK {
				t.Errorf("house %d: Shut of %d = %v, %d, not %v", number, n, g, e, want)
			}
			again, e := alarm.Shut(g, n)
			if !equal(again, want) || e != api.OK {
				t.Errorf("house %d: Shut of %d again = %v, %d, not %v", number, n, again, e, want)
			}
		}
	}
}

// P11.8: the passages without which some people are not out.
func TestNeeded(t *testing.T) {
	checkNeeded(t, "nobody", hall(0, 1, 1), 0)
	checkNeeded(t, "no passages", house([]int{1}), 60)
	checkNeeded(t, "no passages, nobody", house([]int{0}), 60)
	checkNeeded(t, "the only one", hall(1, 1, 1), 60, 0)
	checkNeeded(t, "too early in any way", exampleH(), 2, 0, 1, 2, 3)
	checkNeeded(t, "the minute 0", exampleH(), 0, 0, 1, 2, 3)
	checkNeeded(t, "the last minute", exampleH(), 60)
	checkNeeded(t, "a room that leads nowhere", hopeless(), 60, 0, 1)
	twice := house([]int{4}, passage(0, -1, 2, 1), passage(0, -1, 2, 1))
	checkNeeded(t, "two alike, both needed", twice, 1, 0, 1)
	checkNeeded(t, "two alike, one is enough", twice, 2)
	checkNeeded(t, "all of a row", row(9, 9, 1), 60, 0, 1, 2, 3, 4, 5)
	checkNeeded(t, "shut already", house([]int{4}, passage(0, -1, 0, 1), passage(0, -1, 2, 1)), 2, 1)
	checkNeeded(t, "all limits", full(), 60)
	checkNeeded(t, "all limits, a detour in time", full(), 22)
	checkNeeded(t, "all limits, a detour too late", full(), 21, 0, 2, 4, 6, 8, 10)
	checkNeeded(t, "all limits, no detours", full(), 13, 0, 2, 4, 6, 8, 10)
	checkNeeded(t, "all limits, too early", full(), 12, 0, 1, 2, 3, 4, 5, 6, 7, 8, 9, 10, 11)
}
