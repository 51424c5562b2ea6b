package alarm_test

import (
	"math"
	"math/rand"
	"slices"
	"testing"

	"bijou/alarm"
	"bijou/api"
)

// askAll calls every function.
func askAll(h api.Building, minute int, l []api.Move) {
	alarm.Check(h)
	alarm.Gone(h, minute, l)
	alarm.Most(h, minute)
	alarm.Plan(h, minute)
	alarm.Proof(h, minute)
	alarm.Empty(h)
	alarm.Needed(h, minute)
	for number := range h.Passages {
		alarm.Shut(h, number)
	}
}

// behind returns a slice behind whose end there is one more element.
func behind[E any](l []E, more E) []E { return append(slices.Clip(l), more)[:len(l)] }

// P1 and R4: no call changes its argument, or what lies behind it.
func TestArguments(t *testing.T) {
	spot, way, step := 77, passage(7, 7, 7, 7), move(7, 7, 7)
	for n, h := range sound() {
		h.People, h.Passages = behind(h.People, spot), behind(h.Passages, way)
		for _, l := range [][]api.Move{nil, exampleL(), {move(5, 0, 1)}, {move(9, 9, 9)}} {
			before, plan := clone(h), slices.Clone(l)
			l = behind(l, step)
			for _, minute := range []int{0, 2, 60} {
				askAll(h, minute, l)
			}
			if !equal(h, before) || !slices.Equal(l, plan) {
				t.Errorf("%d: %v and %v were changed to %v and %v", n, before, plan, h, l)
			}
			if l[:len(l)+1][len(l)] != step {
				t.Errorf("%d: there is something behind %v", n, l)
			}
		}
		if h.People[:len(h.People)+1][len(h.People)] != spot || h.Passages[:len(h.Passages)+1][len(h.Passages)] != way {
			t.Errorf("%d: there is something behind %v", n, h)
		}
	}
}

// spoil overwrites all that a call returned, and what may lie behind it.
func spoil[E any](l []E, with E) {
	l = l[:cap(l)]
	for n := range l {
		l[n] = with
	}
}

// P1 and R4: what a call returns shares no memory with an argument, or with another result.
func TestMemory(t *testing.T) {
	h := exampleH()
	shut, _ := alarm.Shut(h, 2)
	plan, _ := alarm.Plan(h, 3)
	proof, _ := alarm.Proof(h, 3)
	needed, _ := alarm.Needed(h, 3)
	wantPlan, wantProof := slices.Clone(plan), slices.Clone(proof)
	for range 2 {
		g, _ := alarm.Shut(h, 2)
		spoil(g.People, 77)
		spoil(g.Passages, passage(7, 7, 7, 7))
		p, _ := alarm.Plan(h, 3)
		spoil(p, move(7, 7, 7))
		hours, _ := alarm.Proof(h, 3)
		spoil(hours, 77)
		l, _ := alarm.Needed(h, 3)
		spoil(l, 77)
	}
	if !equal(h, exampleH()) || !equal(shut, with(h, func(h *api.Building) { h.Passages[2].Width = 0 })) {
		t.Errorf("%v or %v was changed", h, shut)
	}
	if !slices.Equal(plan, wantPlan) || !slices.Equal(proof, wantProof) || !slices.Equal(needed, []int{0, 1, 2}) {
		t.Errorf("%v, %v or %v was changed", plan, proof, needed)
	}
	checkMost(t, "again", h, 3, 9)
	checkNeeded(t, "again", h, 3, 0, 1, 2)
}

// R3: nil and empty slices are the same.
func TestNilAndEmpty(t *testing.T) {
	for n, people := range [][]int{nil, {}} {
		passages, moves := [][]api.Passage{nil, {}}[n], [][]api.Move{nil, {}}[n]
		for _, h := range []api.Building{{People: people, Passages: passages}, {People: people, Passages: exampleH().Passages}} {
			checkPlanErrors(t, "no rooms", h, 3, api.ErrBuilding)
			checkGoneError(t, "no rooms", h, 3, moves, api.ErrBuilding)
			checkEmptyError(t, "no rooms", h, api.ErrBuilding)
			checkShutError(t, "no rooms", h, 0, api.ErrBuilding)
		}
		h := api.Building{People: []int{3}, Passages: passages}
		checkMost(t, "no passages", h, 3, 0)
		checkGone(t, "no passages", h, 3, 0, moves...)
		checkGone(t, "no moves", exampleH(), 3, 0, moves...)
		checkNeeded(t, "no passages", h, 3)
		checkEmptyError(t, "no passages", h, api.ErrNone)
		checkShutError(t, "no passages", h, 0, api.ErrArg)
	}
}

// odd returns a number, or sometimes one that cannot be.
func odd(rnd *rand.Rand, n int) int {
	if rnd.Intn(60) == 0 {
		return []int{math.MinInt, math.MaxInt, -2, -1, 0, 1, 10, 21, 61, 100, 1 << 32}[rnd.Intn(11)]
	}
	return n
}

// anyHouse is a random one, some numbers of which may be odd.
func anyHouse(rnd *rand.Rand) api.Building {
	h := randomHouse(rnd, middle)
	for room, people := range h.People {
		h.People[room] = odd(rnd, people)
	}
	for number, p := range h.Passages {
		h.Passages[number] = passage(odd(rnd, p.From), odd(rnd, p.To), odd(rnd, p.Width), odd(rnd, p.Walk))
	}
	switch rnd.Intn(60) {
	case 0:
		h.People = h.People[1:]
	case 1:
		h.People = slices.Repeat(h.People, 3)
	case 2:
		h.Passages = slices.Repeat(h.Passages, 3)
	}
	return h
}

// isSound tells by the words of the document whether a house is valid.
func isSound(h api.Building) bool {
	isIn := func(n, low, high int) bool { return low <= n && n <= high }
	rooms := len(h.People)
	for _, people := range h.People {
		if !isIn(people, 0, 99) {
			return false
		}
	}
	for _, p := range h.Passages {
		isWay := isIn(p.From, 0, rooms-1) && (p.To == -1 || isIn(p.To, 0, rooms-1)) && p.From != p.To
		if !isWay || !isIn(p.Width, 0, 20) || !isIn(p.Walk, 1, 9) {
			return false
		}
	}
	return isIn(rooms, 1, 6) && len(h.Passages) <= 12
}

// P1: with any numbers at all every call returns, and an error comes with zero values.
func TestAnyArguments(t *testing.T) {
	rnd := rand.New(rand.NewSource(4))
	sound := 0
	for range 6000 {
		h, minute, number := anyHouse(rnd), odd(rnd, rnd.Intn(12)), odd(rnd, rnd.Intn(8))
		l := []api.Move{move(odd(rnd, 0), odd(rnd, 0), odd(rnd, 1)), move(odd(rnd, rnd.Intn(3)), odd(rnd, 0), odd(rnd, 1))}
		if !isSound(h) {
			if e := alarm.Check(h); e != api.ErrBuilding {
				t.Errorf("Check of %v = %d", h, e)
			}
			checkPlanErrors(t, "any house", h, minute, api.ErrBuilding)
			checkGoneError(t, "any house", h, minute, l, api.ErrBuilding)
			checkShutError(t, "any house", h, number, api.ErrBuilding)
			checkEmptyError(t, "any house", h, api.ErrBuilding)
			continue
		}
		sound++
		checkAnyNumbers(t, h, minute, number, l)
	}
	if sound < 2000 || sound > 5000 {
		t.Errorf("%d of 6000 houses are sound", sound)
	}
}

// checkAnyNumbers tells whether what is said of a valid house with any minute, passage and moves is right.
func checkAnyNumbers(t *testing.T, h api.Building, minute, number int, l []api.Move) {
	t.Helper()
	if e := alarm.Check(h); e != api.OK {
		t.Errorf("Check of %v = %d", h, e)
	}
	switch {
	case minute < 0 || minute > 60:
		checkPlanErrors(t, "any minute", h, minute, api.ErrArg)
		checkGoneError(t, "any minute", h, minute, l, api.ErrArg)
	case isPlan(h, minute, l):
		checkGone(t, "any moves", h, minute, outBy(h, minute, l), l...)
		checkMost(t, "any moves", h, minute, mostOf(h, minute))
	default:
		checkGoneError(t, "any moves", h, minute, l, api.ErrMove)
	}
	if number < 0 || number >= len(h.Passages) {
		checkShutError(t, "any passage", h, number, api.ErrArg)
	} else if g, e := alarm.Shut(h, number); g.Passages[number].Width != 0 || e != api.OK {
		t.Errorf("Shut of %v and %d = %v, %d", h, number, g, e)
	}
}
