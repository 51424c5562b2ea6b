package count_test

import (
	"math"
	"math/rand"
	"slices"
	"testing"

	"bijou/api"
	"bijou/count"
)

// askAll calls every function.
func askAll(v api.Evening) {
	count.Check(v)
	count.Parts(v)
	count.Absent(v)
	count.Fewest(v)
	count.Guilty(v)
	count.Suspects(v)
	count.Explain(v)
	for till := range v.Counters {
		count.Missing(v, till)
		for show := range v.Prices {
			count.Really(v, till, show)
		}
	}
}

// P1 and R4: no call changes its argument, or what lies behind it.
func TestArguments(t *testing.T) {
	behind := func(l []int) []int { return append(slices.Clip(l), 77)[:len(l)] }
	for n, v := range sound() {
		v.Prices, v.Seats, v.Stubs = behind(v.Prices), behind(v.Seats), behind(v.Stubs)
		for till, c := range v.Counters {
			v.Counters[till].Sold = behind(c.Sold)
		}
		before := clone(v)
		askAll(v)
		if !equal(v, before) {
			t.Errorf("%d: %v was changed to %v", n, before, v)
		}
		for _, l := range [][]int{v.Prices, v.Seats, v.Stubs, v.Counters[0].Sold} {
			if l = l[:len(l)+1]; l[len(l)-1] != 77 {
				t.Errorf("%d: there is %v", n, l)
			}
		}
	}
}

// P1 and R4: what a call returns shares no memory with an argument, or with another result or another part of it.
func TestMemory(t *testing.T) {
	v := with(exampleX(), func(v *api.Evening) { v.Counters[0].Cash, v.Counters[1].Cash = 0, 0 })
	before := clone(v)
	absent, _ := count.Absent(v)
	guilty, _ := count.Guilty(v)
	suspects, _ := count.Suspects(v)
	sold, _ := count.Explain(v)
	spoil(count.Absent(v))
	spoil(count.Guilty(v))
	spoil(count.Suspects(v))
	more, _ := count.Explain(v)
	for _, l := range more {
		spoil(l, api.OK)
	}
	if !equal(v, before) || !slices.Equal(absent, []int{0, 1}) || !slices.Equal(guilty, []int{0, 1}) || !slices.Equal(suspects, []int{0, 1}) {
		t.Errorf("%v, %v, %v or %v was changed", v, absent, guilty, suspects)
	}
	spoil(sold[0], api.OK)
	if !slices.Equal(sold[1], []int{5, 2}) {
		t.Errorf("%v was changed", sold)
	}
	checkExplain(t, "again", v, []int{2, 4}, []int{5, 2})
	checkBlamed(t, "again", v, []int{0, 1}, []int{0, 1})
}

// spoil overwrites all that a call returned, and what may lie behind it.
func spoil(l []int, _ api.Errno) {
	l = l[:cap(l)]
	for n := range l {
		l[n] = 77
	}
}

// R3: nil and empty slices are the same.
func TestNilAndEmpty(t *testing.T) {
	for n, l := range [][]int{nil, {}} {
		for name, change := range map[string]func(v *api.Evening){
			"Prices": func(v *api.Evening) { v.Prices = l },
			"Seats":  func(v *api.Evening) { v.Seats = l },
			"Stubs":  func(v *api.Evening) { v.Stubs = l },
			"Sold":   func(v *api.Evening) { v.Counters[0].Sold = l },
			"no shows": func(v *api.Evening) {
				*v = api.Evening{Prices: l, Seats: l, Stubs: l, Counters: []api.Counter{{Sold: l}}}
			},
			"no tills": func(v *api.Evening) { v.Counters = [][]api.Counter{nil, {}}[n] },
		} {
			v := with(exampleV(), change)
			checkPartsError(t, name, v, api.ErrEvening)
			checkAbsentError(t, name, v, api.ErrEvening)
			checkLikelyErrors(t, name, v, api.ErrEvening)
			checkReallyError(t, name, v, 0, 0, api.ErrEvening)
			checkMissingError(t, name, v, 0, api.ErrEvening)
		}
	}
}

// odd returns a number, or sometimes one that cannot be.
func odd(rnd *rand.Rand, n int) int {
	if rnd.Intn(80) == 0 {
		return []int{math.MinInt, math.MaxInt, -1, 0, 1, 21, 51, 81, 10000, 1 << 32}[rnd.Intn(10)]
	}
	return n
}

// oddList changes some numbers of a list, or sometimes its length.
func oddList(rnd *rand.Rand, l []int) []int {
	l = slices.Clone(l)
	for n := range l {
		l[n] = odd(rnd, l[n])
	}
	switch rnd.Intn(120) {
	case 0:
		return l[1:]
	case 1:
		return append(l, 1)
	}
	return l
}

// anyEvening is a random one, some numbers of which may be odd.
func anyEvening(rnd *rand.Rand) api.Evening {
	v := randomEvening(rnd, 3)
	v.Prices, v.Seats, v.Stubs = oddList(rnd, v.Prices), oddList(rnd, v.Seats), oddList(rnd, v.Stubs)
	for n, c := range v.Counters {
		v.Counters[n] = till(odd(rnd, c.First), odd(rnd, c.Last), odd(rnd, c.Void), odd(rnd, c.Float), odd(rnd, c.Cash), oddList(rnd, c.Sold)...)
	}
	if rnd.Intn(80) == 0 {
		v.Counters = append(v.Counters, v.Counters...)
	}
	return v
}

// isSound tells by the words of the document whether an evening is valid.
func isSound(v api.Evening) bool {
	isIn := func(low, high int, l ...int) bool {
		return len(l) == 0 || low <= slices.Min(l) && slices.Max(l) <= high
	}
	shows := len(v.Prices)
	if !isIn(1, 3, shows) || len(v.Seats) != shows || len(v.Stubs) != shows || !isIn(1, 4, len(v.Counters)) {
		return false
	}
	for _, c := range v.Counters {
		if len(c.Sold) != shows || !isIn(0, 20, append([]int{c.Void}, c.Sold...)...) || !isIn(0, 9999, c.First, c.Last, c.Float, c.Cash) || !isIn(0, 20, rollOf(c)) {
			return false
		}
	}
	return isIn(1, 50, v.Prices...) && isIn(0, 80, v.Seats...) && isIn(0, 80, v.Stubs...)
}

// P1: with any numbers at all every call returns, and an error comes with zero values.
func TestAnyArguments(t *testing.T) {
	rnd := rand.New(rand.NewSource(4))
	sound := 0
	for range 5000 {
		v := anyEvening(rnd)
		if !isSound(v) {
			if e := count.Check(v); e != api.ErrEvening {
				t.Errorf("Check of %v = %d", v, e)
			}
			checkPartsError(t, "any evening", v, api.ErrEvening)
			checkAbsentError(t, "any evening", v, api.ErrEvening)
			checkLikelyErrors(t, "any evening", v, api.ErrEvening)
			checkReallyError(t, "any evening", v, odd(rnd, 0), odd(rnd, 0), api.ErrEvening)
			checkMissingError(t, "any evening", v, odd(rnd, 0), api.ErrEvening)
			continue
		}
		sound++
		checkByWords(t, v)
	}
	if sound < 1500 || sound > 4000 {
		t.Errorf("%d of 5000 evenings are sound", sound)
	}
}
