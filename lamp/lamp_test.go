package lamp_test

import (
	"slices"
	"testing"

	"bijou/api"
	"bijou/lamp"
)

// P9.1: Check returns ErrLamp unless a lamp is valid.
func TestCheck(t *testing.T) {
	for name, change := range faulty() {
		if e := lamp.Check(with(exampleM(), change)); e != api.ErrLamp {
			t.Errorf("%s: Check = %d, not ErrLamp", name, e)
		}
	}
	for n, l := range sound() {
		if e := lamp.Check(l); e != api.OK {
			t.Errorf("sound lamp %d: Check = %d", n, e)
		}
	}
}

// checkErrors tells whether all calls return an error with zero values.
func checkErrors(t *testing.T, name string, l api.Lamp, hour int, days []int, want api.Errno) {
	t.Helper()
	if n, e := lamp.Many(l); n != 0 || e != want {
		t.Errorf("%s: Many = %d, %d, not error %d", name, n, e, want)
	}
	if n, e := lamp.Fewest(l); n != 0 || e != want {
		t.Errorf("%s: Fewest = %d, %d, not error %d", name, n, e, want)
	}
	checkBlameError(t, name, l, want)
	checkHourErrors(t, name, l, hour, want)
	checkChangesError(t, name, l, hour, days, want)
}

func checkBlameError(t *testing.T, name string, l api.Lamp, want api.Errno) {
	t.Helper()
	if n, e := lamp.Blame(l); len(n) != 0 || e != want {
		t.Errorf("%s: Blame = %v, %d, not error %d", name, n, e, want)
	}
}

// checkHourErrors tells whether At, Keeps and Until return an error.
func checkHourErrors(t *testing.T, name string, l api.Lamp, hour int, want api.Errno) {
	t.Helper()
	if s, e := lamp.At(l, hour); s != (api.Span{}) || e != want {
		t.Errorf("%s: At of %d = %v, %d, not error %d", name, hour, s, e, want)
	}
	if n, e := lamp.Keeps(l, hour); n != 0 || e != want {
		t.Errorf("%s: Keeps of %d = %d, %d, not error %d", name, hour, n, e, want)
	}
	if sure, may, e := lamp.Until(l, hour); sure != 0 || may != 0 || e != want {
		t.Errorf("%s: Until of %d = %d, %d, %d, not error %d", name, hour, sure, may, e, want)
	}
}

func checkChangesError(t *testing.T, name string, l api.Lamp, burnt int, days []int, want api.Errno) {
	t.Helper()
	if n, e := lamp.Changes(l, burnt, days); len(n) != 0 || e != want {
		t.Errorf("%s: Changes of %d and %v = %v, %d, not error %d", name, burnt, days, n, e, want)
	}
}

// P1: every function returns the error of the lamp before any other one, with zero values.
func TestErrorsOfLamps(t *testing.T) {
	for name, change := range faulty() {
		l := with(exampleM(), change)
		for _, hour := range []int{0, 12, 40, -1, 41} {
			for _, days := range [][]int{nil, {1, 2}, {13}, {40, -1}, make([]int, 31)} {
				checkErrors(t, name, l, hour, days, api.ErrLamp)
			}
		}
		checkErrors(t, name+" without a truth", with(hopeless(), change), -1, []int{-1}, api.ErrLamp)
	}
}

// P9.5, P9.6, P9.7 and P1: an hour that is none is ErrArg, before ErrNone.
func TestErrorsOfHours(t *testing.T) {
	for _, l := range sound() {
		for how, hour := range outside(0, 40) {
			checkHourErrors(t, how, l, hour, api.ErrArg)
		}
	}
	for _, hour := range []int{0, 12, 13, 40} {
		checkHourErrors(t, "no truth", hopeless(), hour, api.ErrNone)
		if _, e := lamp.At(exampleL(), hour); e != api.OK {
			t.Errorf("At of L and %d: %d", hour, e)
		}
		if _, e := lamp.Keeps(exampleL(), hour); e != api.OK {
			t.Errorf("Keeps of L and %d: %d", hour, e)
		}
		if _, _, e := lamp.Until(exampleL(), hour); e != api.OK {
			t.Errorf("Until of L and %d: %d", hour, e)
		}
	}
}

// P9.8 and P1: hours that cannot be burnt, and too many days, are ErrArg, before ErrNone.
func TestErrorsOfChanges(t *testing.T) {
	dark := with(known(1), func(l *api.Lamp) { l.Norm = span(0, 0) })
	for _, l := range append(sound(), dark) {
		for how, n := range outside(0, 40) {
			checkChangesError(t, "burnt "+how, l, n, nil, api.ErrArg)
			checkChangesError(t, "burnt "+how, l, n, []int{1, 40}, api.ErrArg)
			checkChangesError(t, "the only day "+how, l, 0, []int{n}, api.ErrArg)
			checkChangesError(t, "the first day "+how, l, 0, []int{n, 1, 40}, api.ErrArg)
			checkChangesError(t, "the last day "+how, l, 40, []int{1, 40, n}, api.ErrArg)
		}
		checkChangesError(t, "31 days", l, 0, make([]int, 31), api.ErrArg)
		checkChangesError(t, "31 long days", l, 0, slices.Repeat([]int{40}, 31), api.ErrArg)
		checkChangesError(t, "100000 days", l, 0, make([]int, 100000), api.ErrArg)
	}
	checkChangesError(t, "no day in the norm", dark, 0, []int{0}, api.ErrNone)
	checkChanges(t, "30 days", known(1), 40, make([]int, 30), 0)
	checkChanges(t, "a day of 40 hours", with(known(0), func(l *api.Lamp) { l.Rated = 40 }), 40, []int{40}, 0)
}

// P9.2 to P9.8: without a truth Many, Fewest and Changes still answer.
func TestWithoutTruth(t *testing.T) {
	l := hopeless()
	checkMany(t, "no truth", l, 0)
	checkFewest(t, "no truth", l, 1)
	checkBlameError(t, "no truth", l, api.ErrNone)
	checkChanges(t, "no truth", l, 0, nil)
	checkChanges(t, "no truth", l, 0, []int{0}, 0)
	checkChanges(t, "no truth", l, 4, []int{5, 5, 5}, 0, 2)
	checkChangesError(t, "no truth", l, 0, []int{11}, api.ErrNone)
}

func checkMany(t *testing.T, name string, l api.Lamp, want int) {
	t.Helper()
	if n, e := lamp.Many(l); n != want || e != api.OK {
		t.Errorf("%s: Many = %d, %d, not %d", name, n, e, want)
	}
}

func checkFewest(t *testing.T, name string, l api.Lamp, want int) {
	t.Helper()
	if n, e := lamp.Fewest(l); n != want || e != api.OK {
		t.Errorf("%s: Fewest = %d, %d, not %d", name, n, e, want)
	}
}

func checkBlame(t *testing.T, name string, l api.Lamp, want ...int) {
	t.Helper()
	if n, e := lamp.Blame(l); !slices.Equal(n, want) || e != api.OK {
		t.Errorf("%s: Blame = %v, %d, not %v", name, n, e, want)
	}
}

func checkAt(t *testing.T, name string, l api.Lamp, hour, low, high int) {
	t.Helper()
	if s, e := lamp.At(l, hour); s != span(low, high) || e != api.OK {
		t.Errorf("%s: At of %d = %v, %d, not from %d to %d", name, hour, s, e, low, high)
	}
}

func checkKeeps(t *testing.T, name string, l api.Lamp, hour, want int) {
	t.Helper()
	if n, e := lamp.Keeps(l, hour); n != want || e != api.OK {
		t.Errorf("%s: Keeps of %d = %d, %d, not %d", name, hour, n, e, want)
	}
}

func checkUntil(t *testing.T, name string, l api.Lamp, from, sure, may int) {
	t.Helper()
	if n, m, e := lamp.Until(l, from); n != sure || m != may || e != api.OK {
		t.Errorf("%s: Until of %d = %d, %d, %d, not %d, %d", name, from, n, m, e, sure, may)
	}
}

func checkChanges(t *testing.T, name string, l api.Lamp, burnt int, days []int, want ...int) {
	t.Helper()
	if n, e := lamp.Changes(l, burnt, days); !slices.Equal(n, want) || e != api.OK {
		t.Errorf("%s: Changes of %d and %v = %v, %d, not %v", name, burnt, days, n, e, want)
	}
}

// P9.2 to P9.8: the examples of the chapter.
func TestExamples(t *testing.T) {
	l, m := exampleL(), exampleM()
	checkMany(t, "L", l, 3)
	checkMany(t, "M", m, 3)
	checkAt(t, "L", l, 0, 100, 104)
	checkAt(t, "L", l, 5, 84, 86)
	checkAt(t, "L", l, 12, 56, 65)
	checkKeeps(t, "L", l, 11, api.Here)
	checkKeeps(t, "L", l, 14, api.Away)
	checkKeeps(t, "L", l, 12, api.Open)
	checkUntil(t, "L", l, 3, 11, 12)
	checkUntil(t, "L", l, 12, -1, 12)
	checkUntil(t, "L", l, 13, -1, -1)
	checkFewest(t, "M", m, 1)
	checkBlame(t, "M", m, 2)
	checkChanges(t, "L", l, 4, []int{5, 3, 5, 4}, 1, 3)
}

// P9.2: the truths are all numbers of Full and Fade, less those in which too many gauges are wrong.
func TestMany(t *testing.T) {
	checkMany(t, "one line", known(3), 1)
	checkMany(t, "nothing at all", api.Lamp{}, 1)
	checkMany(t, "no gauges", with(exampleL(), func(l *api.Lamp) { l.Gauges = nil }), 15)
	checkMany(t, "Wrong and no gauges", with(exampleL(), func(l *api.Lamp) { l.Gauges, l.Wrong = nil, 3 }), 15)
	checkMany(t, "as many gauges as can be wrong", with(exampleL(), func(l *api.Lamp) { l.Wrong = 2 }), 15)
	checkMany(t, "the limits", full(), 4010)
	checkMany(t, "two truths", crossing(), 2)
	for number, many := range []int{1, 1, 0, 0} {
		checkMany(t, "the bounds of a gauge", with(known(2), func(l *api.Lamp) {
			l.Gauges = []api.Gauge{[]api.Gauge{gauge(10, 80, 90), gauge(10, 70, 80), gauge(10, 81, 90), gauge(10, 70, 79)}[number]}
		}), many)
	}
	below := with(known(9), func(l *api.Lamp) { l.Gauges = []api.Gauge{gauge(40, -260, -260)} })
	checkMany(t, "a light below 0", below, 1)
	checkAt(t, "a light below 0", below, 40, -260, -260)
}

// R6 and P9.2 to P9.4: equal gauges are several ones.
func TestEqualGauges(t *testing.T) {
	for times := range 4 {
		l := with(exampleL(), func(l *api.Lamp) {
			l.Gauges = append(slices.Repeat([]api.Gauge{gauge(2, 120, 130)}, times), l.Gauges...)
		})
		checkFewest(t, "equal gauges", l, times)
		for wrong := range 4 {
			l.Wrong = wrong
			if wrong < times {
				checkMany(t, "equal gauges", l, 0)
				checkBlameError(t, "equal gauges", l, api.ErrNone)
			}
			if wrong == times {
				checkMany(t, "equal gauges", l, 3)
				checkBlame(t, "equal gauges", l, []int{0, 1, 2}[:times]...)
			}
		}
	}
}

// P9.3: Fewest does not ask how many gauges can be wrong.
func TestFewest(t *testing.T) {
	for wrong := range 4 {
		set := func(l *api.Lamp) { l.Wrong = wrong }
		checkFewest(t, "L", with(exampleL(), set), 0)
		checkFewest(t, "M", with(exampleM(), set), 1)
		checkFewest(t, "two truths", with(crossing(), set), 2)
		checkFewest(t, "no gauges", with(known(1), set), 0)
		checkFewest(t, "10 wrong gauges", with(known(1), func(l *api.Lamp) {
			l.Wrong, l.Gauges = wrong, slices.Repeat([]api.Gauge{gauge(0, 101, 101)}, 10)
		}), 10)
	}
}

// P9.4: a gauge is blamed if no truth has it right.
func TestBlame(t *testing.T) {
	checkBlame(t, "L", exampleL())
	checkBlame(t, "no gauges", known(1))
	checkBlame(t, "either of two", crossing())
	checkBlame(t, "M with a greater Wrong", with(exampleM(), func(l *api.Lamp) { l.Wrong = 2 }), 2)
	checkBlame(t, "three", with(known(1), func(l *api.Lamp) {
		l.Wrong = 3
		l.Gauges = []api.Gauge{gauge(0, 99, 99), gauge(0, 100, 100), gauge(1, 100, 400), gauge(1, 99, 99), gauge(40, 0, 59)}
	}), 0, 2, 4)
}

// P9.5: the bounds are those of truths, not those of Full and Fade.
func TestAt(t *testing.T) {
	l := with(exampleL(), func(l *api.Lamp) { l.Gauges = nil })
	checkAt(t, "no gauges", l, 0, 100, 104)
	checkAt(t, "no gauges", l, 10, 60, 84)
	checkAt(t, "no gauges", l, 40, -60, 24)
	checkAt(t, "above Rated", exampleL(), 40, -56, -19)
	checkAt(t, "two truths", crossing(), 0, 80, 90)
	checkAt(t, "two truths", crossing(), 2, 62, 82)
	checkAt(t, "the limits", full(), 40, -360, 400)
	checkAt(t, "nothing at all", api.Lamp{}, 40, 0, 0)
}

// P9.6: the norm has a greatest light too; no truth may keep it although some are below and some above it.
func TestKeeps(t *testing.T) {
	l := with(known(2), func(l *api.Lamp) { l.Norm = span(60, 90) })
	for hour, want := range map[int]int{0: api.Away, 4: api.Away, 5: api.Here, 6: api.Here, 20: api.Here, 21: api.Away, 40: api.Away} {
		checkKeeps(t, "one line", l, hour, want)
	}
	l.Fade = span(2, 3)
	for hour, want := range map[int]int{0: api.Away, 3: api.Away, 4: api.Open, 5: api.Here, 13: api.Here, 14: api.Open, 20: api.Open, 21: api.Away} {
		checkKeeps(t, "two lines", l, hour, want)
	}
	l.Fade, l.Norm = span(0, 9), span(71, 79)
	checkKeeps(t, "between two lines", l, 10, api.Away)
	checkAt(t, "between two lines", l, 10, 10, 100)
	l.Norm = span(71, 80)
	checkKeeps(t, "one line of ten", l, 10, api.Open)
	checkKeeps(t, "two truths", crossing(), 2, api.Open)
	checkKeeps(t, "two truths", crossing(), 40, api.Away)
}

// P9.7: sure is about all truths, may about one of them, and both end at Rated.
func TestUntil(t *testing.T) {
	bright := with(known(2), func(l *api.Lamp) { l.Norm, l.Rated = span(60, 90), 40 })
	checkUntil(t, "too bright at first", bright, 0, -1, -1)
	checkUntil(t, "too bright at first", bright, 4, -1, -1)
	checkUntil(t, "too bright at first", bright, 5, 20, 20)
	checkUntil(t, "too bright at first", bright, 20, 20, 20)
	checkUntil(t, "too bright at first", bright, 21, -1, -1)
	checkUntil(t, "two truths", crossing(), 0, -1, 2)
	checkUntil(t, "two truths", crossing(), 1, -1, 2)
	checkUntil(t, "two truths", crossing(), 3, -1, 7)
	for rated, want := range map[int]int{0: 0, 1: 1, 19: 19, 20: 20, 21: 20, 40: 20} {
		l := with(known(2), func(l *api.Lamp) { l.Rated = rated })
		checkUntil(t, "Rated", l, 0, want, want)
		checkUntil(t, "Rated", l, want, want, want)
		checkUntil(t, "Rated", l, want+1, -1, -1)
		checkUntil(t, "Rated", l, 40, -1, -1)
	}
	steady := with(known(0), func(l *api.Lamp) { l.Rated = 40 })
	checkUntil(t, "a lamp that does not fade", steady, 0, 40, 40)
	checkUntil(t, "a lamp that does not fade", steady, 40, 40, 40)
}

// P9.8: a day can be shown up to Rated, and up to the last hour that keeps the norm.
func TestChanges(t *testing.T) {
	l := known(2)
	checkChanges(t, "no days", l, 0, nil)
	checkChanges(t, "no days", l, 40, nil)
	checkChanges(t, "up to the norm", l, 0, []int{20})
	checkChanges(t, "beyond the norm", l, 1, []int{20}, 0)
	checkChanges(t, "in two days", l, 0, []int{12, 8, 1}, 2)
	checkChanges(t, "each day", l, 1, []int{20, 20, 20}, 0, 1, 2)
	checkChangesError(t, "longer than a lamp", with(l, func(l *api.Lamp) { l.Rated = 40 }), 0, []int{21}, api.ErrNone)
	checkChangesError(t, "longer than a lamp at last", l, 0, []int{1, 2, 21}, api.ErrNone)
	checkChangesError(t, "longer than a lamp, then not", l, 0, []int{21, 1}, api.ErrNone)
	rated := with(l, func(l *api.Lamp) { l.Rated = 10 })
	checkChanges(t, "up to Rated", rated, 0, []int{10})
	checkChanges(t, "up to Rated", rated, 7, []int{3, 10}, 1)
	checkChanges(t, "beyond Rated", rated, 8, []int{3}, 0)
	checkChangesError(t, "longer than Rated", rated, 0, []int{11}, api.ErrNone)
	checkChanges(t, "as late as possible", rated, 0, []int{4, 4, 4, 4, 4, 4}, 2, 4)
	checkChanges(t, "as late as possible", rated, 0, []int{1, 9, 1, 9, 1, 9}, 2, 4)
}

// P9.8: on a day without hours the norm must be kept, too.
func TestDaysWithoutHours(t *testing.T) {
	l := known(2)
	checkChanges(t, "at the last hour", l, 20, []int{0, 0, 0})
	checkChanges(t, "one hour later", l, 21, []int{0, 0, 0}, 0)
	checkChanges(t, "after a day", l, 0, []int{20, 0, 1, 0}, 2)
	above := with(l, func(l *api.Lamp) { l.Rated = 19 })
	checkChanges(t, "above Rated", above, 20, []int{0}, 0)
	bright := with(l, func(l *api.Lamp) { l.Norm = span(60, 99) })
	checkChangesError(t, "too bright at first", bright, 0, []int{0}, api.ErrNone)
	checkChanges(t, "too bright at first", bright, 0, nil)
	checkChanges(t, "nothing at all", api.Lamp{}, 0, make([]int, 30))
}

// P9.8: a day that a new lamp cannot show is an error, also if the first lamp can show it, since its gauges tell more, or a new one is too bright.
func TestFirstLamp(t *testing.T) {
	l := exampleL()
	checkUntil(t, "L", l, 0, 11, 12)
	checkUntil(t, "L without gauges", with(l, func(l *api.Lamp) { l.Gauges = nil }), 0, 10, 12)
	checkChangesError(t, "up to 11", l, 0, []int{11}, api.ErrNone)
	checkChangesError(t, "11 once more", l, 0, []int{11, 11}, api.ErrNone)
	checkChangesError(t, "11 after 1", l, 0, []int{1, 11}, api.ErrNone)
	checkChangesError(t, "from 1 up to 12", l, 1, []int{11}, api.ErrNone)
	checkChanges(t, "up to 11 in two days", l, 0, []int{10, 1, 10, 10}, 2, 3)
	checkChanges(t, "from 1 up to 10", l, 1, []int{10, 1}, 1)
	l.Norm.High = 103
	checkChangesError(t, "104 at first", l, 5, []int{0}, api.ErrNone)
	checkChanges(t, "104 at first, but no day", l, 5, nil)
	bright := with(known(2), func(l *api.Lamp) { l.Norm = span(60, 90) })
	for _, days := range [][]int{{0}, {15}, {10, 5}, {10, 6}} {
		checkChangesError(t, "too bright at first", bright, 5, days, api.ErrNone)
	}
	checkChangesError(t, "too bright at first", bright, 4, []int{1}, api.ErrNone)
	checkChanges(t, "too bright at first, but no day", bright, 5, nil)
	dark := api.Lamp{Full: span(0, 1), Gauges: []api.Gauge{gauge(0, 0, 0)}}
	checkUntil(t, "dark", dark, 0, 0, 0)
	checkChangesError(t, "dark, a new one perhaps not", dark, 0, []int{0}, api.ErrNone)
}
