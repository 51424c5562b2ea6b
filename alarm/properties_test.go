package alarm_test

import (
	"math/rand"
	"slices"
	"testing"

	"bijou/alarm"
	"bijou/api"
)

// mostOf returns the greatest number of people who are out of a house that is known to be valid.
func mostOf(h api.Building, minute int) int {
	n, _ := alarm.Most(h, minute)
	return n
}

// emptyOf returns the first minute up to which all people can be out, one above MaxMinutes if there is none.
func emptyOf(t *testing.T, h api.Building) int {
	t.Helper()
	switch n, e := alarm.Empty(h); e {
	case api.OK:
		return n
	case api.ErrNone:
		return api.MaxMinutes + 1
	default:
		t.Fatalf("Empty of %v: error %d", h, e)
		return 0
	}
}

// spoiled returns a plan in which some number was changed, so that it may be none.
func spoiled(rnd *rand.Rand, h api.Building, l []api.Move) []api.Move {
	l = slices.Clone(l)
	if len(l) == 0 {
		return append(l, move(rnd.Intn(3), rnd.Intn(len(h.Passages)+1), 1))
	}
	m := &l[rnd.Intn(len(l))]
	by := 1 - 2*rnd.Intn(2)
	switch rnd.Intn(4) {
	case 0:
		m.Minute += by
	case 1:
		m.Passage += by
	case 2:
		m.People += by
	default:
		l = append(l, *m)
	}
	return l
}

// P11.2: Gone is what the words of the document say, of plans and of moves that are none.
func TestGoneByWords(t *testing.T) {
	plans, others := 0, 0
	eachHouse(2, 4000, middle, func(rnd *rand.Rand, h api.Building) {
		last := rnd.Intn(8)
		l := anyPlan(rnd, h, last)
		if !isPlan(h, last, l) {
			t.Fatalf("%v is no plan of %v up to %d", l, h, last)
		}
		checkGone(t, "any plan", h, last, outBy(h, last, l), l...)
		for range 3 {
			l = spoiled(rnd, h, l)
			if isPlan(h, last, l) {
				plans++
				checkGone(t, "spoiled", h, last, outBy(h, last, l), l...)
			} else {
				others++
				checkGoneError(t, "spoiled", h, last, l, api.ErrMove)
			}
		}
	})
	if min(plans, others) < 500 {
		t.Errorf("%d spoiled plans were plans, %d were not", plans, others)
	}
}

// P11.9 (the proof): for each plan and all hours at most as many people are out as the bound of the hours.
func TestProof(t *testing.T) {
	same, less := 0, 0
	eachHouse(9, 2000, middle, func(rnd *rand.Rand, h api.Building) {
		last := rnd.Intn(10)
		best, e := alarm.Plan(h, last)
		proof, f := alarm.Proof(h, last)
		if e != api.OK || f != api.OK {
			t.Fatalf("Plan and Proof of %v up to %d: errors %d and %d", h, last, e, f)
		}
		for _, l := range [][]api.Move{best, anyPlan(rnd, h, last), nil} {
			out, e := alarm.Gone(h, last, l)
			if e != api.OK {
				t.Errorf("Gone of %v up to %d by %v: %d", h, last, l, e)
			}
			for _, hours := range [][]int{proof, anyHours(rnd, h, last), anyHours(rnd, h, last)} {
				switch bound := boundBy(h, last, hours); {
				case out > bound:
					t.Errorf("%d are out of %v up to %d by %v, but the bound of %v is %d", out, h, last, l, hours, bound)
				case out == bound:
					same++
				default:
					less++
				}
			}
		}
	})
	if min(same, less) < 2000 {
		t.Errorf("%d times as many were out as the bound, %d times less", same, less)
	}
}

// P11.3 to P11.5 and P11.10 (the best plan): no plan has more people out than Most.
func TestBestPlan(t *testing.T) {
	results := map[int]int{}
	eachHouse(10, 1500, tiny, func(rnd *rand.Rand, h api.Building) {
		last := rnd.Intn(5)
		most := 0
		eachPlan(h, last, func(l []api.Move) {
			most = max(most, outBy(h, last, l))
		})
		checkMost(t, "tiny", h, last, most)
		results[most]++
	})
	if min(results[0], results[1], results[2], results[3]) < 50 {
		t.Errorf("so often so many were out: %v", results)
	}
}

// P11.2: each of all plans of a tiny house is one, and Gone says who is out.
func TestEachPlan(t *testing.T) {
	plans := 0
	eachHouse(110, 600, tiny, func(rnd *rand.Rand, h api.Building) {
		last := rnd.Intn(4)
		eachPlan(h, last, func(l []api.Move) {
			plans++
			checkGone(t, "tiny", h, last, outBy(h, last, l), l...)
		})
	})
	if plans < 5000 {
		t.Errorf("only %d plans", plans)
	}
}

// P11.3 to P11.5: of large houses, too, there are a plan and hours with the same number.
func TestLargeHouses(t *testing.T) {
	some, all := 0, 0
	eachHouse(3, 600, large, func(rnd *rand.Rand, h api.Building) {
		last := rnd.Intn(api.MaxMinutes + 1)
		most := mostOf(h, last)
		checkMost(t, "large", h, last, most)
		switch {
		case most == sum(h.People):
			all++
		case most > 0:
			some++
		}
	})
	if min(some, all) < 100 {
		t.Errorf("%d times all were out, %d times some", all, some)
	}
}

// P11.6 and P11.10 (the best plan): all people are out by some plan up to Empty, and by none up to the minute before.
func TestEmptyIsFirst(t *testing.T) {
	results, never := map[int]int{}, 0
	for n, s := range []size{tiny, middle, large} {
		eachHouse(6+int64(n), 500, s, func(_ *rand.Rand, h api.Building) {
			empty := emptyOf(t, h)
			if empty <= api.MaxMinutes {
				results[min(empty, 10)]++
				checkMost(t, "empty", h, empty, sum(h.People))
			} else {
				never++
			}
			if empty > 0 {
				if before := mostOf(h, empty-1); before >= sum(h.People) {
					t.Errorf("Empty of %v is %d, but %d are out before", h, empty, before)
				}
			}
		})
	}
	if min(never, results[0], results[1], results[2], results[3], results[4], results[5], results[10]) < 20 {
		t.Errorf("%d houses were never empty, and so often ones were so after so many minutes: %v", never, results)
	}
}

// P11.11 (later): up to a later minute Most is not less.
func TestLater(t *testing.T) {
	more, same := 0, 0
	eachHouse(11, 500, middle, func(_ *rand.Rand, h api.Building) {
		for minute := range 12 {
			switch before, after := mostOf(h, minute), mostOf(h, minute+1); {
			case after < before:
				t.Errorf("Most of %v is %d up to %d, but %d a minute later", h, before, minute, after)
			case after > before:
				more++
			default:
				same++
			}
		}
	})
	if min(more, same) < 500 {
		t.Errorf("Most was %d times greater, %d times the same", more, same)
	}
}

// eased returns a house with a passage more, a greater Width or a shorter Walk.
func eased(rnd *rand.Rand, h api.Building, s size) api.Building {
	return with(h, func(h *api.Building) {
		kind := rnd.Intn(3)
		if kind == 0 || len(h.Passages) == 0 {
			number := rnd.Intn(len(h.Passages) + 1)
			h.Passages = slices.Insert(h.Passages, number, randomPassage(rnd, len(h.People), s))
			return
		}
		p := &h.Passages[rnd.Intn(len(h.Passages))]
		if kind == 1 {
			p.Width += 1 + rnd.Intn(3)
		} else {
			p.Walk = 1 + rnd.Intn(p.Walk)
		}
	})
}

// P11.11: with a passage more, a greater Width, or a shorter Walk Most is not less, and Empty is not greater.
func TestEasier(t *testing.T) {
	more, same, sooner := 0, 0, 0
	eachHouse(111, 3000, middle, func(rnd *rand.Rand, h api.Building) {
		easier := eased(rnd, h, middle)
		last := rnd.Intn(12)
		switch before, after := mostOf(h, last), mostOf(easier, last); {
		case after < before:
			t.Errorf("Most of %v up to %d is %d, but of %v %d", h, last, before, easier, after)
		case after > before:
			more++
		default:
			same++
		}
		switch before, after := emptyOf(t, h), emptyOf(t, easier); {
		case after > before:
			t.Errorf("Empty of %v is %d, but of %v %d", h, before, easier, after)
		case after < before:
			sooner++
		}
	})
	if min(more, same, sooner) < 300 {
		t.Errorf("Most was %d times greater, %d times the same, and Empty %d times less", more, same, sooner)
	}
}

// P11.11: with one person more in a room Most is not less, and greater by at most 1.
func TestOneMore(t *testing.T) {
	more, same := 0, 0
	eachHouse(211, 1500, middle, func(rnd *rand.Rand, h api.Building) {
		last := rnd.Intn(12)
		before := mostOf(h, last)
		for room := range h.People {
			fuller := with(h, func(h *api.Building) { h.People[room]++ })
			switch after := mostOf(fuller, last); after - before {
			case 0:
				same++
			case 1:
				more++
			default:
				t.Errorf("Most of %v up to %d is %d, but of %v %d", h, last, before, fuller, after)
			}
		}
	})
	if min(more, same) < 300 {
		t.Errorf("Most was %d times greater, %d times the same", more, same)
	}
}

// P11.12 (doors): with a passage shut Most is not greater; it is in Needed just if Most is less than all people then.
func TestDoors(t *testing.T) {
	needed, others, less := 0, 0, 0
	eachHouse(12, 1500, middle, func(rnd *rand.Rand, h api.Building) {
		last := rnd.Intn(14)
		most := mostOf(h, last)
		var want []int
		for number := range h.Passages {
			shut, e := alarm.Shut(h, number)
			if e != api.OK {
				t.Errorf("Shut of %v and %d: %d", h, number, e)
			}
			n := mostOf(shut, last)
			if n > most {
				t.Errorf("Most of %v up to %d is %d, but %d with %d shut", h, last, most, n, number)
			}
			if n < most {
				less++
			}
			if n < sum(h.People) {
				want = append(want, number)
			} else {
				others++
			}
		}
		checkNeeded(t, "doors", h, last, want...)
		if most == sum(h.People) {
			needed += len(want)
		}
	})
	if min(needed, others, less) < 300 {
		t.Errorf("%d passages were needed, %d were not, with %d Most was less", needed, others, less)
	}
}

// P11.13 (only widths): if all people and widths are so many times as great, so is Most, and Empty is the same.
func TestOnlyWidths(t *testing.T) {
	empty, never := 0, 0
	eachHouse(13, 1000, middle, func(rnd *rand.Rand, h api.Building) {
		times := 1 + rnd.Intn(5)
		greater := with(h, func(h *api.Building) {
			for room := range h.People {
				h.People[room] *= times
			}
			for number := range h.Passages {
				h.Passages[number].Width *= times
			}
		})
		last := rnd.Intn(12)
		checkMost(t, "only widths", greater, last, mostOf(h, last)*times)
		if n := emptyOf(t, h); n <= api.MaxMinutes {
			empty++
			checkEmpty(t, "only widths", greater, n)
		} else {
			never++
			checkEmptyError(t, "only widths", greater, api.ErrNone)
		}
	})
	if min(empty, never) < 200 {
		t.Errorf("%d houses were empty at some minute, %d never", empty, never)
	}
}
