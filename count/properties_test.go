package count_test

import (
	"math/rand"
	"slices"
	"testing"

	"bijou/api"
	"bijou/count"
)

// checkByWords tells whether everything that is said of a valid evening is what the words of the document say.
func checkByWords(t *testing.T, v api.Evening) {
	t.Helper()
	if e := count.Check(v); e != api.OK {
		t.Errorf("Check of %v = %d", v, e)
	}
	what, which := partsBy(v)
	checkParts(t, "by words", v, what, which)
	var absent []int
	for show, n := range v.Seats {
		absent = append(absent, n-v.Stubs[show])
	}
	if slices.Min(absent) < 0 {
		checkAbsentError(t, "by words", v, api.ErrNone)
	} else {
		checkAbsent(t, "by words", v, absent...)
	}
	checkTruthsByWords(t, v, truthsBy(v))
}

func checkTruthsByWords(t *testing.T, v api.Evening, all [][][]int) {
	t.Helper()
	if len(all) == 0 {
		checkLikelyErrors(t, "by words", v, api.ErrNone)
		checkReallyError(t, "by words", v, 0, 0, api.ErrNone)
		checkMissingError(t, "by words", v, 0, api.ErrNone)
		return
	}
	likely, fewest := likelyBy(v, all)
	checkFewest(t, "by words", v, fewest)
	guilty, suspects := blamedBy(v, likely)
	checkBlamed(t, "by words", v, guilty, suspects)
	for till := range v.Counters {
		s := boundsBy(likely, func(truth [][]int) int { return missingIn(v, till, truth[till]) })
		checkMissing(t, "by words", v, till, s.Low, s.High)
		for show := range v.Prices {
			s := boundsBy(likely, func(truth [][]int) int { return truth[till][show] })
			checkReally(t, "by words", v, till, show, s.Low, s.High)
		}
	}
	l, e := count.Explain(v)
	if e != api.OK || !slices.ContainsFunc(likely, func(truth [][]int) bool { return slices.EqualFunc(l, truth, slices.Equal) }) {
		t.Errorf("Explain of %v = %v, %d, not one of %v", v, l, e, likely)
	}
}

// P10.2 to P10.8: everything is what the words of the document say.
func TestByWords(t *testing.T) {
	parts, fewest := map[int]int{}, map[int]int{}
	eachEvening(2, 3000, 5, func(_ *rand.Rand, v api.Evening) {
		checkByWords(t, v)
		what, _ := partsBy(v)
		parts[what]++
		if n, e := count.Fewest(v); e == api.OK {
			fewest[n]++
		}
	})
	if len(parts) != 5 || parts[api.PartStubs] < 30 {
		t.Errorf("so often each part did not agree: %v", parts)
	}
	if min(fewest[0], fewest[1], fewest[2], fewest[3]) < 50 {
		t.Errorf("so often there were so many flaws: %v", fewest)
	}
}

// P10.4 to P10.8: two tills, or two shows, with as many tickets as can be.
func TestLongRolls(t *testing.T) {
	long := 0
	eachEvening(3, 1500, api.MaxRoll, func(_ *rand.Rand, v api.Evening) {
		if len(v.Counters) > 2 && len(v.Prices) > 1 && (len(v.Counters) > 3 || len(v.Prices) > 2) {
			return
		}
		long++
		checkByWords(t, v)
	})
	if long < 700 {
		t.Errorf("only %d evenings had two tills or two shows", long)
	}
}

// P10.9 (it agrees): if only stubs may not agree there are no flaws, and only what the tills say is likely; otherwise there is a flaw, if there is a truth.
func TestItAgrees(t *testing.T) {
	agree, others := 0, 0
	eachEvening(9, 2000, 8, func(_ *rand.Rand, v api.Evening) {
		what, _, e := count.Parts(v)
		fewest, f := count.Fewest(v)
		switch {
		case e != api.OK:
			t.Errorf("Parts of %v: error %d", v, e)
		case what == api.AgreeAll || what == api.PartStubs:
			agree++
			checkFewest(t, "it agrees", v, 0)
			checkBlamed(t, "it agrees", v, nil, nil)
			checkSaid(t, v)
		case f == api.OK:
			others++
			if fewest == 0 {
				t.Errorf("Parts of %v = %d, but there is no flaw", v, what)
			}
		case f != api.ErrNone:
			t.Errorf("Fewest of %v: error %d", v, f)
		}
	})
	if min(agree, others) < 300 {
		t.Errorf("%d evenings agreed, %d did not", agree, others)
	}
}

// checkSaid tells whether what the tills say is the only likely truth.
func checkSaid(t *testing.T, v api.Evening) {
	t.Helper()
	var said [][]int
	for till, c := range v.Counters {
		said = append(said, c.Sold)
		checkMissing(t, "it agrees", v, till, 0, 0)
		for show, n := range c.Sold {
			checkReally(t, "it agrees", v, till, show, n, n)
		}
	}
	checkExplain(t, "it agrees", v, said...)
}

// anyTruth gives the seats of a show, one by one, to tills that have tickets left.
func anyTruth(rnd *rand.Rand, v api.Evening) [][]int {
	var owners []int
	sold := make([][]int, len(v.Counters))
	for till, c := range v.Counters {
		sold[till] = make([]int, len(v.Prices))
		owners = append(owners, slices.Repeat([]int{till}, rollOf(c))...)
	}
	rnd.Shuffle(len(owners), func(i, j int) { owners[i], owners[j] = owners[j], owners[i] })
	for show, n := range v.Seats {
		for _, till := range owners[:n] {
			sold[till][show]++
		}
		owners = owners[n:]
	}
	return sold
}

// nearTruth is a truth with few flaws: one of Explain in which two tills have exchanged a ticket.
func nearTruth(rnd *rand.Rand, v api.Evening) [][]int {
	truth, _ := count.Explain(v)
	one, other := truth[rnd.Intn(len(truth))], truth[rnd.Intn(len(truth))]
	show, instead := rnd.Intn(len(v.Prices)), rnd.Intn(len(v.Prices))
	if one[show] > 0 && other[instead] > 0 {
		one[show]--
		other[show]++
		other[instead]--
		one[instead]++
	}
	return truth
}

// P10.10 (any truth): no truth has fewer flaws than Fewest; one with as many is within Really and Missing, and blames all of Guilty, and nobody but Suspects.
func TestAnyTruth(t *testing.T) {
	likely, unlikely := 0, 0
	eachEvening(10, 500, 12, func(rnd *rand.Rand, v api.Evening) {
		fewest, e := count.Fewest(v)
		if e != api.OK {
			return
		}
		for n := range 10 {
			truth := nearTruth(rnd, v)
			if n < 3 {
				truth = anyTruth(rnd, v)
			}
			if !isTruth(v, truth) {
				t.Fatalf("%v is no truth of %v", truth, v)
			}
			switch flaws := allFlaws(v, truth); {
			case flaws < fewest:
				t.Errorf("Fewest of %v is %d, but %v has %d flaws", v, fewest, truth, flaws)
			case flaws == fewest:
				likely++
				checkLikely(t, v, truth)
			default:
				unlikely++
			}
		}
	})
	if min(likely, unlikely) < 500 {
		t.Errorf("%d truths were likely, %d were not", likely, unlikely)
	}
}

// checkLikely tells whether a likely truth is within what is said of all of them.
func checkLikely(t *testing.T, v api.Evening, truth [][]int) {
	t.Helper()
	guilty, e := count.Guilty(v)
	suspects, f := count.Suspects(v)
	if e != api.OK || f != api.OK {
		t.Errorf("Guilty and Suspects of %v: errors %d and %d", v, e, f)
	}
	for till, sold := range truth {
		hasFlaw := flawsIn(v, till, sold) > 0
		if slices.Contains(guilty, till) && !hasFlaw || hasFlaw && !slices.Contains(suspects, till) {
			t.Errorf("Guilty and Suspects of %v are %v and %v, but %v is likely", v, guilty, suspects, truth)
		}
		s, e := count.Missing(v, till)
		if n := missingIn(v, till, sold); n < s.Low || n > s.High || e != api.OK {
			t.Errorf("Missing of %v and %d is %v, %d, but %v is likely", v, till, s, e, truth)
		}
		checkWithin(t, v, till, sold)
	}
}

// checkWithin tells whether the tickets of a till are within Really.
func checkWithin(t *testing.T, v api.Evening, till int, sold []int) {
	t.Helper()
	for show, n := range sold {
		if s, e := count.Really(v, till, show); n < s.Low || n > s.High || e != api.OK {
			t.Errorf("Really of %v, %d and %d is %v, %d, but %v is likely", v, till, show, s, e, sold)
		}
	}
}

// P10.11 (a truth at all): there is a truth just if the rolls of all tills are together the seats of all shows.
func TestTruthAtAll(t *testing.T) {
	some, none := 0, 0
	eachEvening(11, 3000, 4, func(rnd *rand.Rand, v api.Evening) {
		if rnd.Intn(3) == 0 {
			v.Seats[rnd.Intn(len(v.Seats))] += rnd.Intn(3)
		}
		rolls := 0
		for _, c := range v.Counters {
			rolls += rollOf(c)
		}
		if rolls == sum(v.Seats) {
			some++
			if n, e := count.Fewest(v); e != api.OK {
				t.Errorf("Fewest of %v = %d, %d", v, n, e)
			}
		} else {
			none++
			checkLikelyErrors(t, "no truth", v, api.ErrNone)
		}
		if hasTruth := len(truthsBy(v)) > 0; hasTruth != (rolls == sum(v.Seats)) {
			t.Errorf("%v has a truth: %t", v, hasTruth)
		}
	})
	if min(some, none) < 500 {
		t.Errorf("%d evenings had a truth, %d had none", some, none)
	}
}

// P10.12 (explained): Explain is a truth with Fewest flaws, within Really, also of large evenings.
func TestExplained(t *testing.T) {
	flaws := map[int]int{}
	eachEvening(12, 250, api.MaxRoll, func(_ *rand.Rand, v api.Evening) {
		truth, e := count.Explain(v)
		if e != api.OK {
			checkLikelyErrors(t, "no truth", v, e)
			return
		}
		if !isTruth(v, truth) {
			t.Errorf("Explain of %v = %v, which is no truth", v, truth)
			return
		}
		flaws[allFlaws(v, truth)]++
		checkFewest(t, "explained", v, allFlaws(v, truth))
		for till, sold := range truth {
			checkWithin(t, v, till, sold)
		}
	})
	if min(flaws[0], flaws[1], flaws[2]) < 20 {
		t.Errorf("so many flaws were explained: %v", flaws)
	}
}

// P10.13 (a corrected till): if a till says what it sold in Explain, and has the cash for it, there are as many flaws less as it had.
func TestCorrectedTill(t *testing.T) {
	corrected := map[int]int{}
	eachEvening(13, 1200, 8, func(_ *rand.Rand, v api.Evening) {
		truth, e := count.Explain(v)
		if e != api.OK {
			return
		}
		fewest, _ := count.Fewest(v)
		for till, sold := range truth {
			flaws := flawsIn(v, till, sold)
			corrected[flaws]++
			better := with(v, func(v *api.Evening) {
				v.Counters[till].Sold = slices.Clone(sold)
				v.Counters[till].Cash = v.Counters[till].Float + moneyFor(v.Prices, sold)
			})
			checkFewest(t, "corrected", better, fewest-flaws)
		}
	})
	if min(corrected[0], corrected[1], corrected[2]) < 50 {
		t.Errorf("so many flaws were corrected: %v", corrected)
	}
}

// P10.14 (order): the order of tills changes nothing but the order in what is returned.
func TestOrder(t *testing.T) {
	eachEvening(14, 1000, 6, func(rnd *rand.Rand, v api.Evening) {
		if rnd.Intn(3) == 0 {
			v.Counters[rnd.Intn(len(v.Counters))] = clone(v).Counters[0]
		}
		order := rnd.Perm(len(v.Counters))
		w := with(v, func(w *api.Evening) {
			for n, till := range order {
				w.Counters[n] = clone(v).Counters[till]
			}
		})
		checkOrderOfParts(t, v, w)
		fewest, e := count.Fewest(v)
		if e != api.OK {
			checkLikelyErrors(t, "another order", w, e)
			return
		}
		checkFewest(t, "another order", w, fewest)
		guilty, _ := count.Guilty(v)
		suspects, _ := count.Suspects(v)
		checkBlamed(t, "another order", w, moved(guilty, order), moved(suspects, order))
		for n, till := range order {
			s, _ := count.Missing(v, till)
			checkMissing(t, "another order", w, n, s.Low, s.High)
			for show := range v.Prices {
				s, _ := count.Really(v, till, show)
				checkReally(t, "another order", w, n, show, s.Low, s.High)
			}
		}
		if a, b := explained(v), explained(w); !slices.EqualFunc(a, b, slices.Equal) {
			t.Errorf("Explain says %v of %v, but %v of %v", a, v, b, w)
		}
	})
}

// moved returns which places some tills have in an order, ascending.
func moved(tills, order []int) []int {
	var l []int
	for n, till := range order {
		if slices.Contains(tills, till) {
			l = append(l, n)
		}
	}
	return l
}

// checkOrderOfParts tells whether the same parts agree of two evenings that have the same tills: the first till that does not agree may be another one.
func checkOrderOfParts(t *testing.T, v, w api.Evening) {
	t.Helper()
	ofTill := func(what int) bool { return what == api.PartRoll || what == api.PartMoney }
	what, which, e := count.Parts(v)
	other, otherWhich, f := count.Parts(w)
	if ofTill(what) != ofTill(other) || !ofTill(what) && (what != other || which != otherWhich) || e != api.OK || f != api.OK {
		t.Errorf("Parts of %v = %d, %d, %d, of %v %d, %d, %d", v, what, which, e, w, other, otherWhich, f)
	}
	absent, e := count.Absent(v)
	others, f := count.Absent(w)
	if !slices.Equal(absent, others) || e != f {
		t.Errorf("Absent of %v = %v, %d, of %v %v, %d", v, absent, e, w, others, f)
	}
}

// explained returns for each till all its numbers and what it really sold by Explain, in an order that does not depend on that of the tills.
func explained(v api.Evening) [][]int {
	truth, _ := count.Explain(v)
	var l [][]int
	for till, c := range v.Counters {
		l = append(l, slices.Concat(c.Sold, []int{c.First, c.Last, c.Void, c.Float, c.Cash}, truth[till]))
	}
	slices.SortFunc(l, slices.Compare)
	return l
}

// P10.14 (order): also of two tills that differ by one number only it does not matter which one comes first.
func TestOrderOfSimilarTills(t *testing.T) {
	rnd := rand.New(rand.NewSource(15))
	several := 0
	for range 3000 {
		c := till(5+rnd.Intn(5), 15+rnd.Intn(5), rnd.Intn(5), 10+rnd.Intn(10), 20+rnd.Intn(30), rnd.Intn(4), rnd.Intn(4))
		other := c
		other.Sold = slices.Clone(c.Sold)
		more := 1 + rnd.Intn(2)
		for _, n := range [][]*int{
			{&other.First}, {&other.Last}, {&other.Void}, {&other.Float}, {&other.Cash}, {&other.Sold[0]}, {&other.Sold[1]},
			{&other.First, &other.Last}, {&other.Last, &other.Void}, {&other.Float, &other.Cash},
		}[rnd.Intn(10)] {
			*n += more
		}
		first := rnd.Intn(rollOf(c) + rollOf(other) + 1)
		v := api.Evening{
			Prices: []int{1 + rnd.Intn(4), 1 + rnd.Intn(4)}, Stubs: []int{0, 0}, Counters: []api.Counter{c, other},
			Seats: []int{first, rollOf(c) + rollOf(other) - first},
		}
		w := with(v, func(v *api.Evening) { slices.Reverse(v.Counters) })
		if likely, _ := likelyBy(v, truthsBy(v)); len(likely) > 1 {
			several++
		}
		if a, b := explained(v), explained(w); !slices.EqualFunc(a, b, slices.Equal) {
			t.Errorf("Explain says %v of %v, but %v of %v", a, v, b, w)
		}
	}
	if several < 1000 {
		t.Errorf("only %d evenings had several likely truths", several)
	}
}
