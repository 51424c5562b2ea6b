package lamp_test

import (
	"math"
	"math/rand"
	"slices"
	"testing"

	"bijou/api"
	"bijou/lamp"
)

// P1 and R4: no call changes its argument.
func TestArguments(t *testing.T) {
	for n, l := range sound() {
		// Room behind the gauges and the days, into which nothing may be written.
		gauges := append(slices.Clone(l.Gauges), gauge(7, 7, 7))
		l.Gauges = gauges[:len(l.Gauges):len(gauges)]
		days := []int{5, 3, 5, 4, 7}
		before := clone(l)
		askAll(l, days[:4])
		if !equal(l, before) || gauges[len(l.Gauges)] != gauge(7, 7, 7) || !slices.Equal(days, []int{5, 3, 5, 4, 7}) {
			t.Errorf("%d: %v was changed to %v, and the days are %v", n, before, gauges, days)
		}
	}
}

// askAll calls every function.
func askAll(l api.Lamp, days []int) {
	lamp.Check(l)
	lamp.Many(l)
	lamp.Fewest(l)
	lamp.Blame(l)
	for hour := range api.MaxBurn + 1 {
		lamp.At(l, hour)
		lamp.Keeps(l, hour)
		lamp.Until(l, hour)
		lamp.Changes(l, hour, days)
	}
}

// P1 and R4: what a call returns shares no memory with an argument, or with another result.
func TestMemory(t *testing.T) {
	l := with(known(1), func(l *api.Lamp) { l.Wrong, l.Gauges = 3, slices.Repeat([]api.Gauge{gauge(0, 0, 0)}, 3) })
	days := []int{0, 20, 20}
	blamed, _ := lamp.Blame(l)
	changed, _ := lamp.Changes(l, 40, days)
	spoil(lamp.Blame(l))
	spoil(lamp.Changes(l, 40, days))
	if !slices.Equal(blamed, []int{0, 1, 2}) || !slices.Equal(changed, []int{0, 2}) || !slices.Equal(days, []int{0, 20, 20}) {
		t.Errorf("%v, %v and %v were changed", blamed, changed, days)
	}
	checkBlame(t, "again", l, 0, 1, 2)
	checkChanges(t, "again", l, 40, days, 0, 2)
}

// spoil overwrites all that a call returned, and what may lie behind it.
func spoil(l []int, _ api.Errno) {
	l = l[:cap(l)]
	for n := range l {
		l[n] = 77
	}
}

// R3: nil and empty slices are the same.
func TestNilAndEmpty(t *testing.T) {
	for _, gauges := range [][]api.Gauge{nil, {}} {
		l := with(exampleL(), func(l *api.Lamp) { l.Gauges = gauges })
		checkMany(t, "no gauges", l, 15)
		checkFewest(t, "no gauges", l, 0)
		checkBlame(t, "no gauges", l)
		checkAt(t, "no gauges", l, 12, 52, 80)
		checkKeeps(t, "no gauges", l, 11, api.Open)
		checkUntil(t, "no gauges", l, 3, 10, 12)
		for _, days := range [][]int{nil, {}} {
			checkChanges(t, "no days", l, 12, days)
		}
	}
}

// odd returns a number, or sometimes one that cannot be.
func odd(rnd *rand.Rand, n int) int {
	if rnd.Intn(60) == 0 {
		return []int{math.MinInt, math.MaxInt, -1, 0, 10, 41, 401, -401, 1 << 32}[rnd.Intn(9)]
	}
	return n
}

func oddSpan(rnd *rand.Rand, s api.Span) api.Span { return span(odd(rnd, s.Low), odd(rnd, s.High)) }

// anyLamp is a random one, some numbers of which may be odd.
func anyLamp(rnd *rand.Rand) api.Lamp {
	l := randomLamp(rnd)
	l.Full, l.Fade, l.Norm = oddSpan(rnd, l.Full), oddSpan(rnd, l.Fade), oddSpan(rnd, l.Norm)
	l.Rated, l.Wrong = odd(rnd, l.Rated), odd(rnd, l.Wrong)
	for n, g := range l.Gauges {
		l.Gauges[n] = gauge(odd(rnd, g.Hour), odd(rnd, g.Low), odd(rnd, g.High))
	}
	return l
}

// isSound tells by the words of the document whether a lamp is valid.
func isSound(l api.Lamp) bool {
	isSpan := func(s api.Span, last int) bool { return s.Low >= 0 && s.Low <= s.High && s.High <= last }
	isGauge := func(g api.Gauge) bool {
		return isIn(g.Hour, span(0, 40)) && -400 <= g.Low && g.Low <= g.High && g.High <= 400
	}
	for _, g := range l.Gauges {
		if !isGauge(g) {
			return false
		}
	}
	return isSpan(l.Full, 400) && isSpan(l.Norm, 400) && isSpan(l.Fade, 9) && isIn(l.Rated, span(0, 40)) && isIn(l.Wrong, span(0, 3)) && len(l.Gauges) <= 10
}

// P1: with any numbers at all every call returns, and an error comes with zero values.
func TestAnyArguments(t *testing.T) {
	rnd := rand.New(rand.NewSource(4))
	sound := 0
	for range 6000 {
		l := anyLamp(rnd)
		hour, days := odd(rnd, rnd.Intn(20)), randomDays(rnd, 5)
		for n := range days {
			days[n] = odd(rnd, days[n])
		}
		if !isSound(l) {
			if e := lamp.Check(l); e != api.ErrLamp {
				t.Errorf("Check of %v = %d", l, e)
			}
			checkErrors(t, "any lamp", l, hour, days, api.ErrLamp)
			continue
		}
		sound++
		checkAnyCalls(t, l, hour, days)
	}
	if sound < 2000 || sound > 5000 {
		t.Errorf("%d of 6000 lamps are sound", sound)
	}
}

func checkAnyCalls(t *testing.T, l api.Lamp, hour int, days []int) {
	t.Helper()
	all := truthsBy(l)
	checkMany(t, "any lamp", l, len(all))
	checkFewest(t, "any lamp", l, fewestBy(l))
	inRange := isIn(hour, span(0, 40))
	switch {
	case !inRange:
		checkHourErrors(t, "any hour", l, hour, api.ErrArg)
	case len(all) == 0:
		checkHourErrors(t, "no truth", l, hour, api.ErrNone)
		checkBlameError(t, "no truth", l, api.ErrNone)
	default:
		checkByWords(t, l, all, hour)
	}
	if !inRange || slices.ContainsFunc(days, func(n int) bool { return !isIn(n, span(0, 40)) }) {
		checkChangesError(t, "any days", l, hour, days, api.ErrArg)
	} else {
		checkChangesByWords(t, l, hour, days)
	}
}

// P1: a lamp with the most lines and gauges is judged by the words of the document, too.
func TestLimits(t *testing.T) {
	l := full()
	for n := range l.Gauges {
		l.Gauges[n] = gauge(4*n, 200-4*n, 250-4*n)
	}
	askAll(l, slices.Repeat([]int{1}, api.MaxShown))
	checkMany(t, "the limits", l, len(truthsBy(l)))
	checkFewest(t, "the limits", l, 0)
	checkByWords(t, l, truthsBy(l), 17)
}
