package count_test

import (
	"slices"
	"strconv"
	"testing"

	"bijou/api"
	"bijou/count"
)

// P10.1: Check returns ErrEvening unless an evening is valid.
func TestCheck(t *testing.T) {
	for name, change := range faulty() {
		if e := count.Check(with(exampleV(), change)); e != api.ErrEvening {
			t.Errorf("%s: Check = %d, not ErrEvening", name, e)
		}
	}
	for n, v := range sound() {
		if e := count.Check(v); e != api.OK {
			t.Errorf("sound evening %d: Check = %d", n, e)
		}
	}
}

func checkPartsError(t *testing.T, name string, v api.Evening, want api.Errno) {
	t.Helper()
	if what, which, e := count.Parts(v); what != 0 || which != 0 || e != want {
		t.Errorf("%s: Parts = %d, %d, %d, not error %d", name, what, which, e, want)
	}
}

func checkAbsentError(t *testing.T, name string, v api.Evening, want api.Errno) {
	t.Helper()
	if l, e := count.Absent(v); len(l) != 0 || e != want {
		t.Errorf("%s: Absent = %v, %d, not error %d", name, l, e, want)
	}
}

// checkLikelyErrors tells whether all calls about likely truths return an error, with zero values, that have no till.
func checkLikelyErrors(t *testing.T, name string, v api.Evening, want api.Errno) {
	t.Helper()
	if n, e := count.Fewest(v); n != 0 || e != want {
		t.Errorf("%s: Fewest = %d, %d, not error %d", name, n, e, want)
	}
	if l, e := count.Guilty(v); len(l) != 0 || e != want {
		t.Errorf("%s: Guilty = %v, %d, not error %d", name, l, e, want)
	}
	if l, e := count.Suspects(v); len(l) != 0 || e != want {
		t.Errorf("%s: Suspects = %v, %d, not error %d", name, l, e, want)
	}
	if l, e := count.Explain(v); len(l) != 0 || e != want {
		t.Errorf("%s: Explain = %v, %d, not error %d", name, l, e, want)
	}
}

func checkReallyError(t *testing.T, name string, v api.Evening, till, show int, want api.Errno) {
	t.Helper()
	if s, e := count.Really(v, till, show); s != (api.Span{}) || e != want {
		t.Errorf("%s: Really of %d and %d = %v, %d, not error %d", name, till, show, s, e, want)
	}
}

func checkMissingError(t *testing.T, name string, v api.Evening, till int, want api.Errno) {
	t.Helper()
	if s, e := count.Missing(v, till); s != (api.Span{}) || e != want {
		t.Errorf("%s: Missing of %d = %v, %d, not error %d", name, till, s, e, want)
	}
}

// P1: every function returns ErrEvening before any other error, with zero values.
func TestErrorsOfEvenings(t *testing.T) {
	for name, change := range faulty() {
		for _, v := range []api.Evening{
			with(exampleV(), change), with(hopeless(), change),
			with(with(exampleV(), func(v *api.Evening) { v.Stubs[0] = 80 }), change),
		} {
			checkPartsError(t, name, v, api.ErrEvening)
			checkAbsentError(t, name, v, api.ErrEvening)
			checkLikelyErrors(t, name, v, api.ErrEvening)
			for _, n := range []int{0, 1, -1, 2, 4} {
				checkReallyError(t, name, v, n, 0, api.ErrEvening)
				checkReallyError(t, name, v, 0, n, api.ErrEvening)
				checkMissingError(t, name, v, n, api.ErrEvening)
			}
		}
	}
}

// P10.6, P10.7 and P1: a till or a show that is not there is ErrArg, before ErrNone.
func TestErrorsOfTills(t *testing.T) {
	for number, v := range sound() {
		name := "evening " + strconv.Itoa(number)
		for how, n := range outside(0, len(v.Counters)-1) {
			for show := range v.Prices {
				checkReallyError(t, name+", a till "+how, v, n, show, api.ErrArg)
			}
			checkMissingError(t, name+", a till "+how, v, n, api.ErrArg)
			checkReallyError(t, name+", a till and a show", v, n, len(v.Prices), api.ErrArg)
		}
		for how, n := range outside(0, len(v.Prices)-1) {
			for till := range v.Counters {
				checkReallyError(t, name+", a show "+how, v, till, n, api.ErrArg)
			}
		}
	}
}

// P10.2 to P10.8 and P10.11: without a truth only Check, Parts and Absent answer.
func TestWithoutTruth(t *testing.T) {
	for name, change := range map[string]func(v *api.Evening){
		"a seat more":   func(v *api.Evening) { v.Seats[1]++ },
		"a seat less":   func(v *api.Evening) { v.Seats[0]-- },
		"no seats":      func(v *api.Evening) { v.Seats = []int{0, 0} },
		"all seats":     func(v *api.Evening) { v.Seats = []int{80, 80} },
		"a ticket more": func(v *api.Evening) { v.Counters[0].Last++ },
		"a ticket less": func(v *api.Evening) { v.Counters[0].First++ },
		"one torn up":   func(v *api.Evening) { v.Counters[1].Void++ },
		"a till less":   func(v *api.Evening) { v.Counters = v.Counters[1:] },
		"a till more":   func(v *api.Evening) { v.Counters = append(v.Counters, till(0, 1, 0, 0, 5, 1, 0)) },
	} {
		v := with(exampleX(), change)
		checkLikelyErrors(t, name, v, api.ErrNone)
		for till := range v.Counters {
			checkReallyError(t, name, v, till, 0, api.ErrNone)
			checkReallyError(t, name, v, till, 1, api.ErrNone)
			checkMissingError(t, name, v, till, api.ErrNone)
		}
		if e := count.Check(v); e != api.OK {
			t.Errorf("%s: Check = %d", name, e)
		}
		if _, _, e := count.Parts(v); e != api.OK {
			t.Errorf("%s: Parts: error %d", name, e)
		}
	}
	v := with(exampleX(), func(v *api.Evening) { v.Seats[1]++ })
	checkParts(t, "a seat more", v, api.PartSeats, 1)
	checkAbsent(t, "a seat more", v, 0, 2)
	checkLikelyErrors(t, "one show", with(single(), func(v *api.Evening) { v.Seats[0] = 1 }), api.ErrNone)
}

func checkParts(t *testing.T, name string, v api.Evening, what, which int) {
	t.Helper()
	if n, m, e := count.Parts(v); n != what || m != which || e != api.OK {
		t.Errorf("%s: Parts of %v = %d, %d, %d, not %d, %d", name, v, n, m, e, what, which)
	}
}

func checkAbsent(t *testing.T, name string, v api.Evening, want ...int) {
	t.Helper()
	if l, e := count.Absent(v); !slices.Equal(l, want) || e != api.OK {
		t.Errorf("%s: Absent of %v = %v, %d, not %v", name, v, l, e, want)
	}
}

func checkFewest(t *testing.T, name string, v api.Evening, want int) {
	t.Helper()
	if n, e := count.Fewest(v); n != want || e != api.OK {
		t.Errorf("%s: Fewest of %v = %d, %d, not %d", name, v, n, e, want)
	}
}

func checkBlamed(t *testing.T, name string, v api.Evening, guilty, suspects []int) {
	t.Helper()
	if l, e := count.Guilty(v); !slices.Equal(l, guilty) || e != api.OK {
		t.Errorf("%s: Guilty of %v = %v, %d, not %v", name, v, l, e, guilty)
	}
	if l, e := count.Suspects(v); !slices.Equal(l, suspects) || e != api.OK {
		t.Errorf("%s: Suspects of %v = %v, %d, not %v", name, v, l, e, suspects)
	}
}

func checkReally(t *testing.T, name string, v api.Evening, till, show, low, high int) {
	t.Helper()
	if s, e := count.Really(v, till, show); s != span(low, high) || e != api.OK {
		t.Errorf("%s: Really of %v, %d and %d = %v, %d, not from %d to %d", name, v, till, show, s, e, low, high)
	}
}

func checkMissing(t *testing.T, name string, v api.Evening, till, low, high int) {
	t.Helper()
	if s, e := count.Missing(v, till); s != span(low, high) || e != api.OK {
		t.Errorf("%s: Missing of %v and %d = %v, %d, not from %d to %d", name, v, till, s, e, low, high)
	}
}

func checkExplain(t *testing.T, name string, v api.Evening, want ...[]int) {
	t.Helper()
	if l, e := count.Explain(v); !slices.EqualFunc(l, want, slices.Equal) || e != api.OK {
		t.Errorf("%s: Explain of %v = %v, %d, not %v", name, v, l, e, want)
	}
}

// P10.2 to P10.8: the examples of the chapter.
func TestExamples(t *testing.T) {
	v, w, x := exampleV(), exampleW(), exampleX()
	checkParts(t, "V", v, api.PartRoll, 1)
	checkParts(t, "X", x, api.AgreeAll, -1)
	checkAbsent(t, "V", v, 0, 1)
	checkFewest(t, "V", v, 1)
	checkBlamed(t, "V", v, []int{1}, []int{1})
	checkFewest(t, "W", w, 2)
	checkBlamed(t, "W", w, []int{1}, []int{1})
	checkReally(t, "V", v, 1, 0, 3, 3)
	checkReally(t, "V", v, 1, 1, 4, 4)
	checkMissing(t, "W", w, 0, 0, 0)
	checkMissing(t, "W", w, 1, 3, 3)
	checkExplain(t, "V", v, []int{4, 2}, []int{3, 4})
}

// P10.2: the first thing that does not agree: each till's roll and then its money, then seats, then stubs.
func TestParts(t *testing.T) {
	roll := func(n int) func(v *api.Evening) { return func(v *api.Evening) { v.Counters[n].Last++ } }
	money := func(n int) func(v *api.Evening) { return func(v *api.Evening) { v.Counters[n].Cash-- } }
	seats := func(n int) func(v *api.Evening) { return func(v *api.Evening) { v.Seats[n]++ } }
	stubs := func(n int) func(v *api.Evening) { return func(v *api.Evening) { v.Stubs[n] = 9 } }
	type changes []func(v *api.Evening)
	for number, x := range []struct {
		changes     changes
		what, which int
	}{
		{nil, api.AgreeAll, -1},
		{changes{roll(0)}, api.PartRoll, 0}, {changes{roll(1)}, api.PartRoll, 1},
		{changes{money(0)}, api.PartMoney, 0}, {changes{money(1)}, api.PartMoney, 1},
		{changes{seats(0)}, api.PartSeats, 0}, {changes{seats(1)}, api.PartSeats, 1},
		{changes{stubs(0)}, api.PartStubs, 0}, {changes{stubs(1)}, api.PartStubs, 1},
		{changes{roll(0), money(0)}, api.PartRoll, 0}, {changes{roll(1), money(0)}, api.PartMoney, 0},
		{changes{roll(0), roll(1)}, api.PartRoll, 0}, {changes{roll(1), money(1)}, api.PartRoll, 1},
		{changes{money(0), money(1), seats(0)}, api.PartMoney, 0},
		{changes{seats(0), seats(1), roll(1)}, api.PartRoll, 1}, {changes{seats(0), money(1)}, api.PartMoney, 1},
		{changes{seats(0), seats(1)}, api.PartSeats, 0}, {changes{stubs(0), stubs(1)}, api.PartStubs, 0},
		{changes{stubs(0), seats(1)}, api.PartSeats, 1}, {changes{stubs(0), money(1)}, api.PartMoney, 1}, {changes{stubs(0), roll(1)}, api.PartRoll, 1},
	} {
		v := exampleX()
		for _, change := range x.changes {
			change(&v)
		}
		checkParts(t, "case "+strconv.Itoa(number), v, x.what, x.which)
	}
}

// P10.2: more or less of anything does not agree, but stubs may be less.
func TestMoreAndLess(t *testing.T) {
	one := func(change func(v *api.Evening)) api.Evening { return with(exampleX(), change) }
	checkParts(t, "a longer roll", one(func(v *api.Evening) { v.Counters[0].First-- }), api.PartRoll, 0)
	checkParts(t, "a shorter roll", one(func(v *api.Evening) { v.Counters[0].Last-- }), api.PartRoll, 0)
	checkParts(t, "a torn ticket", one(func(v *api.Evening) { v.Counters[0].Void++ }), api.PartRoll, 0)
	checkParts(t, "a torn ticket more", one(func(v *api.Evening) { v.Counters[0].Void, v.Counters[0].Last = 3, 109 }), api.AgreeAll, -1)
	checkParts(t, "more cash", one(func(v *api.Evening) { v.Counters[1].Cash++ }), api.PartMoney, 1)
	checkParts(t, "more money at first", one(func(v *api.Evening) { v.Counters[1].Float++ }), api.PartMoney, 1)
	checkParts(t, "more money at first and last", one(func(v *api.Evening) { v.Counters[1].Float, v.Counters[1].Cash = 9, 50 }), api.AgreeAll, -1)
	checkParts(t, "a higher price", one(func(v *api.Evening) { v.Prices[1]++ }), api.PartMoney, 0)
	checkParts(t, "a seat less", one(func(v *api.Evening) { v.Seats[0], v.Stubs[0] = 6, 6 }), api.PartSeats, 0)
	checkParts(t, "another show", one(func(v *api.Evening) { v.Seats[0], v.Seats[1] = 8, 5 }), api.PartSeats, 0)
	checkParts(t, "as many stubs", one(func(v *api.Evening) { v.Stubs[1] = 6 }), api.AgreeAll, -1)
	checkParts(t, "one stub more", one(func(v *api.Evening) { v.Stubs[1] = 7 }), api.PartStubs, 1)
	checkParts(t, "no stubs", one(func(v *api.Evening) { v.Stubs = []int{0, 0} }), api.AgreeAll, -1)
	checkParts(t, "nothing sold", single(), api.AgreeAll, -1)
	checkParts(t, "the limits", full(), api.AgreeAll, -1)
	checkParts(t, "both in the wrong way", one(func(v *api.Evening) { v.Counters[0].Sold, v.Counters[1].Sold = []int{4, 2}, []int{3, 4} }), api.PartMoney, 0)
}

// P10.3: the seats without a stub, unless there are more stubs than seats for some show.
func TestAbsent(t *testing.T) {
	came := func(seats, stubs []int) api.Evening {
		return with(exampleV(), func(v *api.Evening) { v.Seats, v.Stubs = seats, stubs })
	}
	checkAbsent(t, "all came", came([]int{7, 6}, []int{7, 6}), 0, 0)
	checkAbsent(t, "nobody came", came([]int{7, 6}, []int{0, 0}), 7, 6)
	checkAbsent(t, "no seats", came([]int{0, 0}, []int{0, 0}), 0, 0)
	checkAbsent(t, "the limits", came([]int{80, 80}, []int{0, 80}), 80, 0)
	checkAbsent(t, "one show", single(), 0)
	checkAbsent(t, "no truth", hopeless(), 1, 1)
	checkAbsentError(t, "the first show", came([]int{7, 6}, []int{8, 6}), api.ErrNone)
	checkAbsentError(t, "the last show", came([]int{7, 6}, []int{0, 7}), api.ErrNone)
	checkAbsentError(t, "far more", came([]int{0, 6}, []int{80, 0}), api.ErrNone)
	checkAbsentError(t, "as many for all shows", came([]int{7, 6}, []int{6, 7}), api.ErrNone)
}

// P10.4 to P10.8: flaws of money only, and of keys only.
func TestOneFlaw(t *testing.T) {
	v := with(exampleX(), func(v *api.Evening) { v.Counters[0].Cash -= 4 })
	checkFewest(t, "less cash", v, 1)
	checkBlamed(t, "less cash", v, []int{0}, []int{0})
	checkMissing(t, "less cash", v, 0, 4, 4)
	checkMissing(t, "less cash", v, 1, 0, 0)
	checkExplain(t, "less cash", v, []int{2, 4}, []int{5, 2})
	v.Counters[0].Cash += 9
	checkFewest(t, "more cash", v, 1)
	checkBlamed(t, "more cash", v, []int{0}, []int{0})
	checkMissing(t, "more cash", v, 0, -5, -5)
	checkReally(t, "more cash", v, 0, 0, 2, 2)
	v = with(exampleX(), func(v *api.Evening) { v.Counters[1].Sold = []int{4, 3} })
	checkFewest(t, "a ticket keyed for the other show", v, 1)
	checkBlamed(t, "a ticket keyed for the other show", v, []int{1}, []int{1})
	checkMissing(t, "a ticket keyed for the other show", v, 1, 0, 0)
	checkExplain(t, "a ticket keyed for the other show", v, []int{2, 4}, []int{5, 2})
	v = with(exampleX(), func(v *api.Evening) { v.Prices[1], v.Counters[0].Cash, v.Counters[1].Cash = 5, 40, 35 })
	checkFewest(t, "equal prices", v, 0)
	v.Counters[0].Sold = []int{3, 3}
	checkFewest(t, "equal prices", v, 1)
	checkBlamed(t, "equal prices", v, nil, []int{0, 1})
	checkReally(t, "equal prices", v, 0, 0, 2, 3)
	checkReally(t, "equal prices", v, 1, 1, 2, 3)
	checkMissing(t, "equal prices", v, 1, 0, 0)
}

// P10.4 to P10.8: if nothing is wrong nobody is blamed.
func TestNoFlaw(t *testing.T) {
	for n, v := range []api.Evening{exampleX(), single(), full(), with(exampleX(), func(v *api.Evening) { v.Stubs = []int{80, 80} })} {
		name := "evening " + strconv.Itoa(n)
		checkFewest(t, name, v, 0)
		checkBlamed(t, name, v, nil, nil)
		var said [][]int
		for till, c := range v.Counters {
			said = append(said, c.Sold)
			checkMissing(t, name, v, till, 0, 0)
			for show, sold := range c.Sold {
				checkReally(t, name, v, till, show, sold, sold)
			}
		}
		checkExplain(t, name, v, said...)
	}
}

// P10.4 to P10.8: of two equal tills either can have a flaw, so none is guilty.
func TestEqualTills(t *testing.T) {
	v := equalTills()
	checkFewest(t, "equal tills", v, 2)
	checkBlamed(t, "equal tills", v, nil, []int{0, 1})
	for till := range 2 {
		checkReally(t, "equal tills", v, till, 0, 0, 1)
		checkReally(t, "equal tills", v, till, 1, 0, 1)
		checkMissing(t, "equal tills", v, till, 0, 3)
	}
	if l, e := count.Explain(v); e != api.OK || !isTruth(v, l) {
		t.Errorf("Explain of equal tills = %v, %d", l, e)
	}
}

// P10.4 to P10.7: a till whose keys and money are both wrong has two flaws.
func TestTwoFlaws(t *testing.T) {
	v := with(exampleX(), func(v *api.Evening) { v.Seats = []int{8, 5} })
	checkFewest(t, "another seat", v, 2)
	checkBlamed(t, "another seat", v, nil, []int{0, 1})
	checkReally(t, "another seat", v, 0, 0, 2, 3)
	checkReally(t, "another seat", v, 1, 0, 5, 6)
	checkMissing(t, "another seat", v, 0, -3, 0)
	checkMissing(t, "another seat", v, 1, -3, 0)
	v = with(exampleX(), func(v *api.Evening) { v.Counters = v.Counters[:1]; v.Seats = []int{4, 2} })
	checkFewest(t, "one till", v, 2)
	checkBlamed(t, "one till", v, []int{0}, []int{0})
	checkReally(t, "one till", v, 0, 0, 4, 4)
	checkMissing(t, "one till", v, 0, -6, -6)
	checkExplain(t, "one till", v, []int{4, 2})
}

// P10.4 to P10.8: what a till says cannot be so if there are fewer seats, or another roll.
func TestSaidTooMuch(t *testing.T) {
	v := with(single(), func(v *api.Evening) { v.Counters[0].Sold = []int{20} })
	checkFewest(t, "keyed, not sold", v, 1)
	checkBlamed(t, "keyed, not sold", v, []int{0}, []int{0})
	checkReally(t, "keyed, not sold", v, 0, 0, 0, 0)
	checkMissing(t, "keyed, not sold", v, 0, 0, 0)
	checkExplain(t, "keyed, not sold", v, []int{0})
	v.Counters[0].Cash = 20
	checkFewest(t, "keyed and paid, not sold", v, 2)
	checkMissing(t, "keyed and paid, not sold", v, 0, -20, -20)
	v = with(exampleX(), func(v *api.Evening) {
		v.Prices, v.Seats, v.Stubs = []int{1, 1, 1}, []int{20, 20, 0}, []int{0, 0, 0}
		v.Counters = []api.Counter{till(0, 20, 0, 0, 20, 0, 0, 20), till(0, 20, 0, 0, 20, 20, 0, 0)}
	})
	checkFewest(t, "a show without seats", v, 1)
	checkBlamed(t, "a show without seats", v, []int{0}, []int{0})
	checkReally(t, "a show without seats", v, 0, 1, 20, 20)
	checkReally(t, "a show without seats", v, 0, 2, 0, 0)
	checkExplain(t, "a show without seats", v, []int{0, 20, 0}, []int{20, 0, 0})
}

// P10.4 to P10.8 and P1: at the limits, where nothing of what the tills say can be so.
func TestLimits(t *testing.T) {
	v := with(full(), func(v *api.Evening) {
		v.Prices = []int{50, 49, 48}
		for n := range v.Counters {
			v.Counters[n].Sold, v.Counters[n].Cash = []int{20, 20, 20}, 0
		}
	})
	checkFewest(t, "the limits", v, 8)
	checkBlamed(t, "the limits", v, []int{0, 1, 2, 3}, []int{0, 1, 2, 3})
	for till := range v.Counters {
		for show := range v.Prices {
			checkReally(t, "the limits", v, till, show, 0, 20)
		}
		checkMissing(t, "the limits", v, till, 8999+20*48, 8999+20*50)
	}
	l, e := count.Explain(v)
	if e != api.OK || !isTruth(v, l) {
		t.Errorf("Explain at the limits = %v, %d", l, e)
	}
	v.Seats = []int{0, 0, 80}
	checkFewest(t, "one show only", v, 8)
	checkReally(t, "one show only", v, 3, 2, 20, 20)
	checkMissing(t, "one show only", v, 3, 8999+20*48, 8999+20*48)
	checkExplain(t, "one show only", v, slices.Repeat([][]int{{0, 0, 20}}, 4)...)
}
