package lamp_test

import (
	"math/rand"
	"slices"
	"testing"

	"bijou/api"
	"bijou/lamp"
	"bijou/show"
)

// checkByWords tells whether a lamp that has truths is judged by the words of the document.
func checkByWords(t *testing.T, l api.Lamp, all []truth, hour int) {
	t.Helper()
	checkBlame(t, "by words", l, blameBy(l)...)
	light := atBy(all, hour)
	checkAt(t, "by words", l, hour, light.Low, light.High)
	checkKeeps(t, "by words", l, hour, keepsBy(all, l.Norm, hour))
	sure, may := untilBy(l, all, hour)
	checkUntil(t, "by words", l, hour, sure, may)
}

// checkChangesByWords tells whether Changes returns the best of all changes, and returns their number, or -1 if there are none.
func checkChangesByWords(t *testing.T, l api.Lamp, burnt int, days []int) int {
	t.Helper()
	changed, ok := changesBy(l, burnt, days)
	if !ok {
		checkChangesError(t, "by words", l, burnt, days, api.ErrNone)
		return -1
	}
	checkChanges(t, "by words", l, burnt, days, changed...)
	return len(changed)
}

// P9.2 to P9.7: everything is what the words of the document say.
func TestByWords(t *testing.T) {
	kept, until, blamed := map[int]int{}, map[bool]int{}, 0
	eachLamp(2, 800, func(_ *rand.Rand, l api.Lamp) {
		all := truthsBy(l)
		checkMany(t, "random", l, len(all))
		checkFewest(t, "random", l, fewestBy(l))
		if len(all) == 0 {
			checkBlameError(t, "random", l, api.ErrNone)
			checkHourErrors(t, "random", l, 7, api.ErrNone)
			kept[0]++
			return
		}
		blamed += len(blameBy(l))
		for hour := range api.MaxBurn + 1 {
			checkByWords(t, l, all, hour)
			kept[keepsBy(all, l.Norm, hour)]++
			sure, may := untilBy(l, all, hour)
			until[sure != -1 && sure < may && may < l.Rated]++
		}
	})
	if kept[0] < 50 || min(kept[api.Here], kept[api.Away], kept[api.Open]) < 2000 || until[true] < 200 || blamed < 200 {
		t.Errorf("%v: so often there was no truth, and the norm was kept, not kept, or perhaps; until two hours below Rated %d times; %d gauges were blamed", kept, until[true], blamed)
	}
}

// P9.8: Changes returns the fewest changes, each as late as possible; ErrNone just if a new lamp cannot show some day.
func TestChangesByWords(t *testing.T) {
	changes, first := map[int]int{}, 0
	eachLamp(8, 12000, func(rnd *rand.Rand, l api.Lamp) {
		burnt, days := rnd.Intn(12), randomDays(rnd, 8)
		n := checkChangesByWords(t, l, burnt, days)
		changes[n]++
		if n == -1 && newRunner(l, burnt).firstBad(days, nil) == -1 {
			first++
		}
	})
	if min(changes[-1], changes[0], changes[1], changes[2], changes[3]) < 100 || first < 50 {
		t.Errorf("so often there were so many changes: %v; %d times the first lamp could show each day, but a new one could not", changes, first)
	}
}

// P9.9 (the true light): if at most Wrong gauges are wrong, the light is in At at each hour, and the norm is not surely broken where it is kept, nor surely kept where it is broken.
func TestTrueLight(t *testing.T) {
	kept, broken := 0, 0
	eachLamp(9, 1000, func(rnd *rand.Rand, l api.Lamp) {
		v := anyTruth(rnd, l)
		l.Gauges = gaugesOf(rnd, v, rnd.Intn(6), rnd.Intn(l.Wrong+1))
		for hour := range api.MaxBurn + 1 {
			light := v.light(hour)
			s, e := lamp.At(l, hour)
			if !isIn(light, s) || e != api.OK {
				t.Errorf("At of %v and %d is %v, %d, but the light is %d", l, hour, s, e, light)
			}
			n, e := lamp.Keeps(l, hour)
			if isIn(light, l.Norm) {
				kept++
				if n != api.Here && n != api.Open || e != api.OK {
					t.Errorf("Keeps of %v and %d is %d, %d, but the light is %d", l, hour, n, e, light)
				}
			} else {
				broken++
				if n != api.Away && n != api.Open || e != api.OK {
					t.Errorf("Keeps of %v and %d is %d, %d, but the light is %d", l, hour, n, e, light)
				}
			}
		}
	})
	if min(kept, broken) < 5000 {
		t.Errorf("the norm was kept %d times, and broken %d times", kept, broken)
	}
}

// lessKnown returns a lamp of which less is known, and the gauge that it has no more, -1 if it has all.
func lessKnown(rnd *rand.Rand, l api.Lamp) (api.Lamp, int) {
	without := -1
	return with(l, func(l *api.Lamp) {
		switch n := rnd.Intn(4); {
		case n == 0:
			l.Wrong = min(api.MaxWrong, l.Wrong+1)
		case n == 1:
			l.Full = span(l.Full.Low-rnd.Intn(3), l.Full.High+rnd.Intn(3))
		case n == 2:
			l.Fade = span(max(0, l.Fade.Low-rnd.Intn(2)), l.Fade.High+rnd.Intn(2))
		case len(l.Gauges) > 0:
			without = rnd.Intn(len(l.Gauges))
			l.Gauges = slices.Delete(l.Gauges, without, without+1)
		}
	}), without
}

// P9.10 (less known): with a gauge less, a greater Wrong, or wider Full and Fade no truth is lost: At is not narrower, and what was not sure does not become sure.
func TestLessKnown(t *testing.T) {
	found := 0
	eachLamp(10, 2000, func(rnd *rand.Rand, l api.Lamp) {
		less, without := lessKnown(rnd, l)
		before, e := lamp.Many(l)
		after, f := lamp.Many(less)
		if after < before || e != api.OK || f != api.OK {
			t.Errorf("Many of %v = %d, %d, of %v = %d, %d", l, before, e, less, after, f)
		}
		if before == 0 {
			return
		}
		if after > before {
			found++
		}
		for hour := range api.MaxBurn + 1 {
			checkNotSurer(t, l, less, hour)
		}
		checkNotBlamed(t, l, less, without)
		checkNotFewer(t, l, less, rnd.Intn(12), randomDays(rnd, 10))
	})
	if found < 500 {
		t.Errorf("truths were found only %d times", found)
	}
}

// checkNotSurer tells whether nothing at an hour is surer of a lamp of which less is known.
func checkNotSurer(t *testing.T, l, less api.Lamp, hour int) {
	t.Helper()
	was, _ := lamp.At(l, hour)
	is, e := lamp.At(less, hour)
	if is.Low > was.Low || is.High < was.High || e != api.OK {
		t.Errorf("At of %v and %d is %v, of %v %v, %d", l, hour, was, less, is, e)
	}
	before, _ := lamp.Keeps(l, hour)
	after, e := lamp.Keeps(less, hour)
	if after != before && after != api.Open || e != api.OK {
		t.Errorf("Keeps of %v and %d is %d, of %v %d, %d", l, hour, before, less, after, e)
	}
	sure, may, _ := lamp.Until(l, hour)
	lessSure, lessMay, e := lamp.Until(less, hour)
	if lessSure > sure || lessMay < may || e != api.OK {
		t.Errorf("Until of %v and %d is %d, %d, of %v %d, %d, %d", l, hour, sure, may, less, lessSure, lessMay, e)
	}
}

// checkNotBlamed tells whether only gauges are blamed of which it was known already.
func checkNotBlamed(t *testing.T, l, less api.Lamp, without int) {
	t.Helper()
	before, _ := lamp.Blame(l)
	after, e := lamp.Blame(less)
	for _, n := range after {
		if without != -1 && n >= without {
			n++
		}
		if !slices.Contains(before, n) {
			t.Errorf("Blame of %v is %v, of %v %v, %d", l, before, less, after, e)
		}
	}
}

// checkNotFewer tells whether there are not fewer changes of a lamp of which less is known.
func checkNotFewer(t *testing.T, l, less api.Lamp, burnt int, days []int) {
	t.Helper()
	before, e := lamp.Changes(l, burnt, days)
	after, f := lamp.Changes(less, burnt, days)
	if f == api.OK && (len(after) < len(before) || e != api.OK) {
		t.Errorf("Changes of %v, %d and %v are %v, %d, of %v %v", l, burnt, days, before, e, less, after)
	}
}

// P9.11 (fading): later the least light is not greater, nor is the greatest one; Until's sure is at most may; from an hour between, Until's sure is the same.
func TestFading(t *testing.T) {
	between := 0
	eachLamp(11, 1500, func(_ *rand.Rand, l api.Lamp) {
		if n, _ := lamp.Many(l); n == 0 {
			return
		}
		last, _ := lamp.At(l, 0)
		for hour := range api.MaxBurn + 1 {
			s, e := lamp.At(l, hour)
			if s.Low > last.Low || s.High > last.High || s.Low > s.High || e != api.OK {
				t.Errorf("At of %v and %d is %v, %d, and %v before", l, hour, s, e, last)
			}
			last = s
			sure, may, e := lamp.Until(l, hour)
			if sure > may || e != api.OK {
				t.Errorf("Until of %v and %d is %d, %d, %d", l, hour, sure, may, e)
			}
			for from := hour; from <= sure; from++ {
				between++
				if n, _, e := lamp.Until(l, from); n != sure || e != api.OK {
					t.Errorf("Until of %v and %d is %d, of %d %d, %d", l, hour, sure, from, n, e)
				}
			}
		}
	})
	if between < 5000 {
		t.Errorf("only %d hours were between", between)
	}
}

// P9.12 (the meters): a gauge of Blame is wrong in each truth; there is a truth just if Fewest is at most Wrong.
func TestMeters(t *testing.T) {
	blamed, none := 0, 0
	eachLamp(12, 3000, func(_ *rand.Rand, l api.Lamp) {
		fewest, e := lamp.Fewest(l)
		many, f := lamp.Many(l)
		if (fewest <= l.Wrong) != (many > 0) || e != api.OK || f != api.OK {
			t.Errorf("Fewest of %v = %d, %d, but Many = %d, %d", l, fewest, e, many, f)
		}
		gauges, e := lamp.Blame(l)
		if (e == api.OK) != (many > 0) {
			t.Errorf("Blame of %v = %v, %d, but Many = %d", l, gauges, e, many)
		}
		if many == 0 {
			none++
		}
		for _, n := range gauges {
			blamed++
			g := l.Gauges[n]
			for _, v := range truthsBy(l) {
				if isIn(v.light(g.Hour), span(g.Low, g.High)) {
					t.Errorf("Blame of %v is %v, but %v is right in %v", l, gauges, g, v)
				}
			}
		}
	})
	if min(blamed, none) < 300 {
		t.Errorf("%d gauges were blamed, and %d lamps had no truth", blamed, none)
	}
}

// P9.13 (no day in a bad light): with the changes of Changes each day can be shown; with one change less, at whatever days, some day cannot.
func TestNoDayInABadLight(t *testing.T) {
	less := 0
	eachLamp(13, 1500, func(rnd *rand.Rand, l api.Lamp) {
		burnt, days := rnd.Intn(12), randomDays(rnd, 8)
		changed, e := lamp.Changes(l, burnt, days)
		if e != api.OK {
			return
		}
		r := newRunner(l, burnt)
		if day := r.firstBad(days, changed); day != -1 {
			t.Errorf("Changes of %v, %d and %v are %v, but the day %d cannot be shown", l, burnt, days, changed, day)
		}
		eachSubset(len(days), func(other []int) {
			if len(other) != len(changed)-1 {
				return
			}
			less++
			if r.firstBad(days, other) == -1 {
				t.Errorf("Changes of %v, %d and %v are %v, but %v are enough", l, burnt, days, changed, other)
			}
		})
	})
	if less < 3000 {
		t.Errorf("only %d times there was one change less", less)
	}
}

// P9.14 (brighter): if Full, Norm and all readings are greater by the same number, everything is the same, but At, which is greater by it.
func TestBrighter(t *testing.T) {
	eachLamp(14, 800, func(rnd *rand.Rand, l api.Lamp) {
		by := rnd.Intn(250) - 15
		more := brighter(l, by)
		if by < 0 && lamp.Check(more) != api.OK {
			return
		}
		before, after := answersOf(l, 0), answersOf(more, by)
		if !slices.Equal(before, after) {
			t.Errorf("of %v is said %v, but of %v %v", l, before, more, after)
		}
		burnt, days := rnd.Intn(12), randomDays(rnd, 8)
		was, e := lamp.Changes(l, burnt, days)
		is, f := lamp.Changes(more, burnt, days)
		if !slices.Equal(was, is) || e != f {
			t.Errorf("Changes of %v, %d and %v are %v, %d, of %v %v, %d", l, burnt, days, was, e, more, is, f)
		}
	})
}

// answersOf returns all that is said of a lamp, but for its changes, with a light that is less by a number.
func answersOf(l api.Lamp, by int) []int {
	many, e := lamp.Many(l)
	fewest, f := lamp.Fewest(l)
	all := []int{many, int(e), fewest, int(f)}
	blamed, e := lamp.Blame(l)
	all = append(append(all, blamed...), int(e))
	for hour := range api.MaxBurn + 1 {
		s, e := lamp.At(l, hour)
		if e == api.OK {
			s = span(s.Low-by, s.High-by)
		}
		n, f := lamp.Keeps(l, hour)
		sure, may, g := lamp.Until(l, hour)
		all = append(all, s.Low, s.High, int(e), n, int(f), sure, may, int(g))
	}
	return all
}

// P0.5 (the lamp for every length): if lamps are changed for shows of the greatest length, each show is given in a light that keeps the norm also if some are shorter.
func TestEveryLength(t *testing.T) {
	shorter, changed := 0, 0
	eachLamp(105, 1500, func(rnd *rand.Rand, l api.Lamp) {
		var longest, real []int
		for range rnd.Intn(10) {
			least, most := lengthOf(t, randomShow(rnd))
			longest, real = append(longest, hours(most)), append(real, hours(least+rnd.Intn(most-least+1)))
		}
		burnt := rnd.Intn(8)
		l.Norm.Low -= 20
		n, e := lamp.Changes(l, burnt, longest)
		if e != api.OK {
			return
		}
		changed += len(n)
		for day := range real {
			if real[day] < longest[day] {
				shorter++
			}
		}
		if day := newRunner(l, burnt).firstBad(real, n); day != -1 {
			t.Errorf("Changes of %v, %d and %v are %v, but with %v the day %d cannot be shown", l, burnt, longest, n, real, day)
		}
	})
	if min(shorter, changed) < 500 {
		t.Errorf("%d days were shorter, and %d lamps were changed", shorter, changed)
	}
}

// hours returns the number of hours that have begun after some minutes.
func hours(minutes int) int { return (minutes + 59) / 60 }

// randomShow has spots, and films on a platter.
func randomShow(rnd *rand.Rand) api.Show {
	s := api.Show{Booth: api.Booth{Platter: api.MaxPlatter, Screen: -1}}
	for n := range 1 + rnd.Intn(api.MaxItems) {
		if rnd.Intn(3) > 0 {
			s.Items = append(s.Items, api.Item{Kind: api.Spots, Length: span(rnd.Intn(31), 30+rnd.Intn(31))})
			continue
		}
		tear := api.Mark{Kind: api.Torn, From: 0, To: 9, Count: span(0, rnd.Intn(10))}
		s.Reels = append(s.Reels, api.Reel{Feet: 10 + n, Marks: []api.Mark{tear}})
		s.Items = append(s.Items, api.Item{Kind: api.Film, Reels: []int{len(s.Reels) - 1}})
	}
	return s
}

// lengthOf returns how many minutes a show takes at the least and at the most.
func lengthOf(t *testing.T, s api.Show) (least, most int) {
	t.Helper()
	_, end, e := show.Times(s, 0)
	if e != api.OK {
		t.Fatalf("Times of %v: %d", s, e)
	}
	return end.Low, end.High
}
