package week_test

import (
	"math/rand"
	"slices"
	"testing"

	"bijou/api"
	"bijou/week"
)

func broken(w api.Week, p []int) []int {
	l, _ := week.Broken(w, p)
	return l
}

func takings(w api.Week, p []int) int {
	n, _ := week.Takings(w, p)
	return n
}

// P5.8 (the proof): no program that keeps all deals takes more than Most; Best keeps all, and takes as much.
func TestProof(t *testing.T) {
	some, none := 0, 0
	eachWeek(8, 150, func(_ *rand.Rand, w api.Week) {
		most := mostOf(w)
		greatest := -1
		eachProgram(w, func(p []int) {
			if len(broken(w, p)) == 0 {
				greatest = max(greatest, takings(w, p))
			}
		})
		if most != greatest {
			t.Errorf("Most of %v is %d, but a program takes %d", w, most, greatest)
		}
		if most == -1 {
			none++
			return
		}
		some++
		checkBest(t, "random", w, greatest)
	})
	if some < 40 || none < 40 {
		t.Errorf("%d weeks have a program, %d have none", some, none)
	}
}

// P5.9 (the named deals): no program keeps all deals that Clash names, but some program all but any one of them; any program breaks one of them.
func TestNamedDeals(t *testing.T) {
	named := 0
	eachWeek(9, 300, func(_ *rand.Rand, w api.Week) {
		deals, e := week.Clash(w)
		if (e == api.OK) == (mostOf(w) != -1) {
			t.Errorf("Clash of %v = %v, %d, but Most is %d", w, deals, e, mostOf(w))
		}
		if e != api.OK {
			return
		}
		named++
		together := only(w, deals)
		if mostOf(together) != -1 {
			t.Errorf("Clash of %v = %v, but some program keeps them", w, deals)
		}
		for n := range deals {
			if mostOf(less(together, n)) == -1 {
				t.Errorf("Clash of %v = %v, but no program keeps them without %d", w, deals, deals[n])
			}
		}
		eachProgram(w, func(p []int) {
			l := broken(w, p)
			if !slices.ContainsFunc(deals, func(n int) bool { return slices.Contains(l, n) }) {
				t.Errorf("Clash of %v = %v, but %v breaks only %v", w, deals, p, l)
			}
		})
	})
	if named < 80 {
		t.Errorf("only %d times deals were named", named)
	}
}

// P5.10 (less to keep): without a deal Most is not less, and it is greater by Cost.
func TestWithoutDeal(t *testing.T) {
	more, same := 0, 0
	eachWeek(10, 200, func(_ *rand.Rand, w api.Week) {
		for deal := range w.Deals {
			before, after := mostOf(w), mostOf(less(w, deal))
			if after < before {
				t.Errorf("Most of %v is %d, without the deal %d only %d", w, before, deal, after)
			}
			if before != -1 {
				checkCost(t, "random", w, deal, after-before)
			}
			if after > before {
				more++
			} else {
				same++
			}
		}
	})
	if more < 50 || same < 50 {
		t.Errorf("without a deal Most was %d times more, %d times the same", more, same)
	}
}

// P5.10: for fewer days, for fewer Times at least, or for more at most, Most is not less.
func TestEasierDeal(t *testing.T) {
	more := map[int]int{}
	eachWeek(110, 4000, func(rnd *rand.Rand, w api.Week) {
		if len(w.Deals) == 0 {
			return
		}
		n := rnd.Intn(len(w.Deals))
		easier := with(w, func(w *api.Week) { w.Deals[n] = ease(rnd, w.Deals[n]) })
		before, after := mostOf(w), mostOf(easier)
		if after < before {
			t.Errorf("Most of %v is %d, with %v instead of the deal %d only %d", w, before, easier.Deals[n], n, after)
		}
		if after > before {
			more[w.Deals[n].Kind]++
		}
	})
	for kind := api.Least; kind <= api.Every; kind++ {
		if more[kind] < 3 {
			t.Errorf("only %d times Most was more with an easier deal of the kind %d", more[kind], kind)
		}
	}
}

// ease returns a deal of which there is not more to keep.
func ease(rnd *rand.Rand, d api.Deal) api.Deal {
	switch {
	case d.Kind == api.Least:
		d.Times = rnd.Intn(d.Times + 1)
	case d.Kind == api.Most:
		d.Times += rnd.Intn(api.MaxSlots - d.Times + 1)
	default:
		d.From += rnd.Intn(d.To - d.From + 1)
		d.To -= rnd.Intn(d.To - d.From + 1)
	}
	return d
}

// P5.11 (exchanged): if two screens with as many seats are exchanged in a program, it keeps the same deals, and takes as much.
func TestScreensExchanged(t *testing.T) {
	changed := 0
	eachWeek(11, 1500, func(rnd *rand.Rand, w api.Week) {
		a, b := rnd.Intn(len(w.Rooms)), rnd.Intn(len(w.Rooms))
		if a == b || w.Rooms[a] != w.Rooms[b] {
			return
		}
		changed += checkExchanged(t, rnd, w, func(s slot) slot {
			s.screen = exchanged(s.screen, a, b)
			return s
		})
	})
	if changed < 300 {
		t.Errorf("only %d programs were changed", changed)
	}
}

// P5.11: so it is with days, for deals that are for all days.
func TestDaysExchanged(t *testing.T) {
	changed := 0
	eachWeek(111, 1500, func(rnd *rand.Rand, w api.Week) {
		a, b := rnd.Intn(w.Days), rnd.Intn(w.Days)
		for n := range w.Deals {
			w.Deals[n].From, w.Deals[n].To = 0, w.Days-1
		}
		changed += checkExchanged(t, rnd, w, func(s slot) slot {
			s.day = exchanged(s.day, a, b)
			return s
		})
	})
	if changed < 300 {
		t.Errorf("only %d programs were changed", changed)
	}
}

func exchanged(n, a, b int) int {
	switch n {
	case a:
		return b
	case b:
		return a
	}
	return n
}

// checkExchanged tells whether a program with the film of each slot in another one is like before, and how many programs of which some deals are broken were changed.
func checkExchanged(t *testing.T, rnd *rand.Rand, w api.Week, to func(slot) slot) int {
	t.Helper()
	changed := 0
	l := slotsIn(w)
	for range 10 {
		p, q := make([]int, len(l)), make([]int, len(l))
		for n, s := range l {
			p[n] = rnd.Intn(len(w.Films)+1) - 1
			q[slices.Index(l, to(s))] = p[n]
		}
		if !slices.Equal(broken(w, p), broken(w, q)) || takings(w, p) != takings(w, q) {
			t.Errorf("%v of %v breaks %v and takes %d, %v breaks %v and takes %d", p, w, broken(w, p), takings(w, p), q, broken(w, q), takings(w, q))
		}
		if !slices.Equal(p, q) && len(broken(w, p)) > 0 {
			changed++
		}
	}
	return changed
}

// P5.12 (prices): if all prices are so many times as great, so is Most.
func TestPrices(t *testing.T) {
	some := 0
	eachWeek(12, 200, func(rnd *rand.Rand, w api.Week) {
		times := rnd.Intn(9)
		dear := with(w, func(w *api.Week) {
			for n := range w.Films {
				w.Films[n].Price *= times
			}
		})
		before, after := mostOf(w), mostOf(dear)
		if want := before * times; before != -1 && after != want || before == -1 && after != -1 {
			t.Errorf("Most of %v is %d, with prices that are %d times as great %d", w, before, times, after)
		}
		if before > 0 && times > 1 {
			some++
		}
	})
	if some < 50 {
		t.Errorf("only %d times Most was greater", some)
	}
}

// P5.12: with one more film Most is not less.
func TestOneMoreFilm(t *testing.T) {
	more, same := 0, 0
	eachWeek(112, 200, func(rnd *rand.Rand, w api.Week) {
		other := with(w, func(w *api.Week) { w.Films = append(w.Films, randomFilm(rnd, w.Hours)) })
		before, after := mostOf(w), mostOf(other)
		switch {
		case after < before || (before == -1) != (after == -1):
			t.Errorf("Most of %v is %d, with one more film %d", w, before, after)
		case after > before:
			more++
		default:
			same++
		}
	})
	if more < 30 || same < 30 {
		t.Errorf("with one more film Most was %d times more, %d times the same", more, same)
	}
}
