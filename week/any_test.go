package week_test

import (
	"math"
	"math/rand"
	"slices"
	"testing"

	"bijou/api"
	"bijou/week"
)

// eachWeek calls a function with random weeks, some of which have two films and all slots.
func eachWeek(seed int64, times int, do func(rnd *rand.Rand, w api.Week)) {
	rnd := rand.New(rand.NewSource(seed))
	for n := range times {
		if n%20 == 0 {
			do(rnd, randomWeek(rnd, api.MaxSlots, 2, api.MaxDeals))
			continue
		}
		do(rnd, randomWeek(rnd, 5, 3, 6))
	}
}

// P5.2 and P5.3: Broken and Takings are what the words of the document say, of each program.
func TestAgainstWords(t *testing.T) {
	broken, kept := map[int]int{}, map[int]int{}
	eachWeek(1, 200, func(_ *rand.Rand, w api.Week) {
		eachProgram(w, func(p []int) {
			for n, d := range w.Deals {
				if slices.Contains(brokenBy(w, p), n) {
					broken[d.Kind]++
				} else {
					kept[d.Kind]++
				}
			}
			checkBroken(t, "random", w, p, brokenBy(w, p)...)
			checkTaken(t, "random", w, p, taken(w, p))
		})
	})
	for kind := api.Least; kind <= api.Every; kind++ {
		if broken[kind] < 500 || kept[kind] < 500 {
			t.Errorf("deals of the kind %d were broken %d times, and kept %d times", kind, broken[kind], kept[kind])
		}
	}
}

// P5.4 to P5.7: Most, Best, Clash and Cost are what trying each program tells.
func TestAgainstEachProgram(t *testing.T) {
	clashes, costs, free := map[int]int{}, 0, 0
	eachWeek(2, 1500, func(_ *rand.Rand, w api.Week) {
		k := know(w)
		most := k.most(k.all())
		if most == -1 {
			clashes[len(k.clash())]++
			checkClash(t, "random", w, k.clash()...)
			checkNone(t, "random", w)
			return
		}
		checkNoClash(t, "random", w)
		checkBest(t, "random", w, most)
		for deal := range w.Deals {
			cost := k.most(k.all(deal)) - most
			checkCost(t, "random", w, deal, cost)
			if cost > 0 {
				costs++
			} else {
				free++
			}
		}
	})
	if clashes[1] < 20 || clashes[2] < 20 || clashes[3] < 5 || costs < 100 || free < 100 {
		t.Errorf("so many clashes of each size: %v; %d deals cost something, %d nothing", clashes, costs, free)
	}
}

// P1 and R4: no call changes its argument, or shares memory with it or with another result.
func TestMemory(t *testing.T) {
	for i, w := range append(sound(), exampleV()) {
		before := clone(w)
		dark := slices.Repeat([]int{api.Dark}, len(slotsIn(w)))
		p := slices.Clone(dark)
		broken, _ := week.Broken(w, p)
		best, _ := week.Best(w)
		clash, _ := week.Clash(w)
		was := [][]int{slices.Clone(broken), slices.Clone(best), slices.Clone(clash)}
		spoil(week.Broken(w, p))
		spoil(week.Best(w))
		spoil(week.Clash(w))
		if now := [][]int{broken, best, clash}; !slices.EqualFunc(was, now, slices.Equal) {
			t.Errorf("%d: %v were changed to %v", i, was, now)
		}
		if !equal(w, before) || !slices.Equal(p, dark) {
			t.Errorf("%d: %v was changed to %v, and a dark program to %v", i, before, w, p)
		}
		again, _ := week.Best(w)
		named, _ := week.Clash(w)
		if !slices.Equal(again, best) || !slices.Equal(named, clash) {
			t.Errorf("%d: Best is %v, then %v; Clash is %v, then %v", i, best, again, clash, named)
		}
	}
}

// spoil overwrites all that a call returned, and what may lie behind it.
func spoil(l []int, _ api.Errno) {
	l = l[:cap(l)]
	for i := range l {
		l[i] = 77
	}
}

// R3: nil and empty slices are the same.
func TestNilAndEmpty(t *testing.T) {
	bare := api.Week{Days: 1, Rooms: []int{10}, Hours: 2}
	empty := api.Week{Days: 1, Rooms: []int{10}, Hours: 2, Films: []api.Movie{}, Deals: []api.Deal{}}
	for _, w := range []api.Week{bare, empty} {
		checkBest(t, "no films", w, 0)
		checkNoClash(t, "no films", w)
		checkBroken(t, "no films", w, []int{-1, -1})
		checkErrors(t, "no rooms", with(w, func(w *api.Week) { w.Rooms = w.Rooms[:0] }), nil, 0, api.ErrWeek)
		checkProgramErrors(t, "no program", w, nil, api.ErrProgram)
		checkProgramErrors(t, "no program", w, []int{}, api.ErrProgram)
	}
	checkErrors(t, "nil crowd", with(bare, func(w *api.Week) { w.Films = []api.Movie{{}} }), nil, 0, api.ErrWeek)
	checkErrors(t, "empty crowd", with(bare, func(w *api.Week) { w.Films = []api.Movie{{Crowd: []int{}}} }), nil, 0, api.ErrWeek)
}

// odd returns a number, or sometimes one that cannot be.
func odd(rnd *rand.Rand, n int) int {
	if rnd.Intn(100) == 0 {
		return []int{math.MinInt, math.MaxInt, -1, 9, 1000, 1 << 62, 1 << 32}[rnd.Intn(7)]
	}
	return n
}

// anyWeek is a random week, some numbers of which may be odd.
func anyWeek(rnd *rand.Rand) api.Week {
	w := randomWeek(rnd, 5, 3, 4)
	w.Days, w.Hours, w.Rooms[0] = odd(rnd, w.Days), odd(rnd, w.Hours), odd(rnd, w.Rooms[0])
	for n := range w.Films {
		w.Films[n].Price, w.Films[n].Crowd[0] = odd(rnd, w.Films[n].Price), odd(rnd, w.Films[n].Crowd[0])
	}
	for n, d := range w.Deals {
		w.Deals[n] = api.Deal{
			Kind: odd(rnd, d.Kind), Film: odd(rnd, d.Film), From: odd(rnd, d.From), To: odd(rnd, d.To),
			Early: odd(rnd, d.Early), Late: odd(rnd, d.Late), Seats: odd(rnd, d.Seats), Times: odd(rnd, d.Times),
		}
	}
	return w
}

// P1: with any numbers at all every call returns, and an error comes with zero values.
func TestAnyArguments(t *testing.T) {
	rnd := rand.New(rand.NewSource(4))
	sound := 0
	for range 4000 {
		w := anyWeek(rnd)
		var p []int
		for range rnd.Intn(6) {
			p = append(p, odd(rnd, rnd.Intn(4)-1))
		}
		deal := odd(rnd, rnd.Intn(4))
		if e := week.Check(w); e != api.OK {
			checkErrors(t, "any week", w, p, deal, e)
			continue
		}
		sound++
		checkAnyCalls(t, w, p, deal)
	}
	if sound < 1000 || sound > 3600 {
		t.Errorf("%d of 4000 weeks are sound", sound)
	}
}

func checkAnyCalls(t *testing.T, w api.Week, p []int, deal int) {
	t.Helper()
	if l, e := week.Broken(w, p); e != api.OK && (len(l) != 0 || e != api.ErrProgram) {
		t.Errorf("Broken of %v by %v = %v, %d", w, p, l, e)
	}
	if n, e := week.Takings(w, p); e != api.OK && (n != 0 || e != api.ErrProgram) {
		t.Errorf("Takings of %v by %v = %d, %d", w, p, n, e)
	}
	most, e := week.Most(w)
	if e != api.OK && (most != 0 || e != api.ErrNone) {
		t.Errorf("Most of %v = %d, %d", w, most, e)
	}
	if best, f := week.Best(w); e != f || e != api.OK && len(best) != 0 {
		t.Errorf("Best of %v = %v, %d", w, best, f)
	}
	if l, f := week.Clash(w); (e == api.OK) != (f == api.ErrNone) || (f == api.OK) != (len(l) > 0) {
		t.Errorf("Clash of %v = %v, %d", w, l, f)
	}
	want := e
	if deal < 0 || deal >= len(w.Deals) {
		want = api.ErrArg
	}
	if n, f := week.Cost(w, deal); f != want || f != api.OK && n != 0 {
		t.Errorf("Cost of %v for %d = %d, %d", w, deal, n, f)
	}
}
