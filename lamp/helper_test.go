package lamp_test

import (
	"math"
	"math/rand"
	"slices"

	"bijou/api"
)

func span(low, high int) api.Span { return api.Span{Low: low, High: high} }

func gauge(hour, low, high int) api.Gauge { return api.Gauge{Hour: hour, Low: low, High: high} }

// exampleL and exampleM are the lamps of the chapter's examples.
func exampleL() api.Lamp {
	return api.Lamp{
		Full: span(100, 104), Fade: span(2, 4), Norm: span(60, 110), Rated: 12,
		Gauges: []api.Gauge{gauge(5, 84, 92), gauge(10, 60, 71)},
	}
}

func exampleM() api.Lamp {
	return with(exampleL(), func(l *api.Lamp) {
		l.Gauges = append(l.Gauges, gauge(2, 120, 130))
		l.Wrong = 1
	})
}

// known is a lamp without gauges that has a light of 100 at first, and loses some in each hour.
func known(fade int) api.Lamp {
	return api.Lamp{Full: span(100, 100), Fade: span(fade, fade), Norm: span(60, 100), Rated: 20}
}

// hopeless is the lamp M if all its gauges must be right: it has no truth.
func hopeless() api.Lamp { return with(exampleM(), func(l *api.Lamp) { l.Wrong = 0 }) }

// crossing is a lamp with two truths: 80 that loses 9 an hour, and 90 that loses 4.
func crossing() api.Lamp {
	return api.Lamp{
		Full: span(80, 90), Fade: span(4, 9), Norm: span(60, 80), Rated: 40, Wrong: 2,
		Gauges: []api.Gauge{gauge(0, 80, 80), gauge(1, 71, 71), gauge(0, 90, 90), gauge(1, 86, 86)},
	}
}

// full is a lamp at all limits.
func full() api.Lamp {
	return api.Lamp{
		Full: span(0, api.MaxLight), Fade: span(0, api.MaxFade), Norm: span(0, api.MaxLight), Rated: api.MaxBurn,
		Gauges: slices.Repeat([]api.Gauge{gauge(api.MaxBurn, -api.MaxLight, api.MaxLight)}, api.MaxGauges), Wrong: api.MaxWrong,
	}
}

// sound are lamps without an error, most of them at the limits.
func sound() []api.Lamp {
	one := func(change func(l *api.Lamp)) api.Lamp { return with(exampleL(), change) }
	return []api.Lamp{
		exampleL(), exampleM(), known(0), known(9), hopeless(), crossing(), full(), {},
		{Gauges: []api.Gauge{}},
		{Full: span(400, 400), Fade: span(9, 9), Norm: span(400, 400), Rated: 40, Gauges: []api.Gauge{gauge(40, 400, 400)}, Wrong: 3},
		one(func(l *api.Lamp) { l.Gauges = nil }),
		one(func(l *api.Lamp) { l.Full = span(0, 400) }),
		one(func(l *api.Lamp) { l.Fade = span(0, 9) }),
		one(func(l *api.Lamp) { l.Norm = span(400, 400) }),
		one(func(l *api.Lamp) { l.Norm = span(0, 0) }),
		one(func(l *api.Lamp) { l.Rated = 0 }),
		one(func(l *api.Lamp) { l.Rated = 40 }),
		one(func(l *api.Lamp) { l.Wrong = 3 }),
		one(func(l *api.Lamp) { l.Gauges[0] = gauge(0, -400, -400) }),
		one(func(l *api.Lamp) { l.Gauges[1] = gauge(40, 400, 400) }),
	}
}

// with returns a copy of a lamp in which something was changed.
func with(l api.Lamp, change func(l *api.Lamp)) api.Lamp {
	l = clone(l)
	change(&l)
	return l
}

func clone(l api.Lamp) api.Lamp {
	l.Gauges = slices.Clone(l.Gauges)
	return l
}

func equal(a, b api.Lamp) bool {
	return a.Full == b.Full && a.Fade == b.Fade && a.Norm == b.Norm && a.Rated == b.Rated && a.Wrong == b.Wrong && slices.Equal(a.Gauges, b.Gauges)
}

// brighter returns a lamp whose light, norm and readings are greater by a number.
func brighter(l api.Lamp, by int) api.Lamp {
	return with(l, func(l *api.Lamp) {
		l.Full = span(l.Full.Low+by, l.Full.High+by)
		l.Norm = span(l.Norm.Low+by, l.Norm.High+by)
		for n, g := range l.Gauges {
			l.Gauges[n] = gauge(g.Hour, g.Low+by, g.High+by)
		}
	})
}

// outside are numbers that are not from a first to a last one.
func outside(first, last int) map[string]int {
	return map[string]int{
		"just below": first - 1, "just above": last + 1, "the least": math.MinInt, "endless": math.MaxInt,
		"far below": -1 << 32, "far above": 1 << 32,
	}
}

// The tests know what is so by the words of the document, which are tried number by number.

// truth is what a lamp can be: its light at first, and what it loses.
type truth struct{ full, fade int }

func (v truth) light(hour int) int { return v.full - hour*v.fade }

func isIn(n int, s api.Span) bool { return s.Low <= n && n <= s.High }

// anyTruths are all numbers of Full and Fade, with those gauges that are wrong.
func anyTruths(l api.Lamp) map[truth][]int {
	all := map[truth][]int{}
	for full := l.Full.Low; full <= l.Full.High; full++ {
		for fade := l.Fade.Low; fade <= l.Fade.High; fade++ {
			v := truth{full, fade}
			all[v] = nil
			for n, g := range l.Gauges {
				if light := v.light(g.Hour); light < g.Low || light > g.High {
					all[v] = append(all[v], n)
				}
			}
		}
	}
	return all
}

// truthsBy are all truths of a lamp.
func truthsBy(l api.Lamp) []truth {
	var all []truth
	for v, wrong := range anyTruths(l) {
		if len(wrong) <= l.Wrong {
			all = append(all, v)
		}
	}
	return all
}

// newBy are all truths of a new lamp.
func newBy(l api.Lamp) []truth {
	l.Gauges = nil
	return truthsBy(l)
}

func fewestBy(l api.Lamp) int {
	least := len(l.Gauges)
	for _, wrong := range anyTruths(l) {
		least = min(least, len(wrong))
	}
	return least
}

// blameBy returns the gauges that are wrong in each truth of a lamp that has one.
func blameBy(l api.Lamp) []int {
	often := make([]int, len(l.Gauges))
	truths := 0
	for _, wrong := range anyTruths(l) {
		if len(wrong) > l.Wrong {
			continue
		}
		truths++
		for _, n := range wrong {
			often[n]++
		}
	}
	var blamed []int
	for n := range often {
		if often[n] == truths {
			blamed = append(blamed, n)
		}
	}
	return blamed
}

func atBy(all []truth, hour int) api.Span {
	s := span(math.MaxInt, math.MinInt)
	for _, v := range all {
		s = span(min(s.Low, v.light(hour)), max(s.High, v.light(hour)))
	}
	return s
}

// keepsBy returns whether the norm is kept at an hour in all of some truths, in none, or in some.
func keepsBy(all []truth, norm api.Span, hour int) int {
	kept := 0
	for _, v := range all {
		if isIn(v.light(hour), norm) {
			kept++
		}
	}
	switch kept {
	case len(all):
		return api.Here
	case 0:
		return api.Away
	}
	return api.Open
}

func untilBy(l api.Lamp, all []truth, from int) (sure, may int) {
	greatest := func(l api.Lamp, all []truth) int {
		hour := -1
		for last := from; last <= l.Rated; last++ {
			if canBeShown(l, all, from, last-from) {
				hour = last
			}
		}
		return hour
	}
	may = -1
	for _, v := range all {
		may = max(may, greatest(l, []truth{v}))
	}
	return greatest(l, all), may
}

// canBeShown tells whether a day of some hours can be shown by a lamp with some truths that has burnt others before.
func canBeShown(l api.Lamp, all []truth, burnt, hours int) bool {
	if len(all) == 0 || burnt+hours > l.Rated {
		return false
	}
	for hour := burnt; hour <= burnt+hours; hour++ {
		if keepsBy(all, l.Norm, hour) != api.Here {
			return false
		}
	}
	return true
}

// runner shows days with a lamp that has burnt some hours, and new ones, of which it knows the truths.
type runner struct {
	api.Lamp
	truths, fresh []truth
	burnt         int
}

func newRunner(l api.Lamp, burnt int) runner {
	return runner{l, truthsBy(l), newBy(l), burnt}
}

// firstBad returns the first day that cannot be shown if the lamp is changed before some days, -1 if all can.
func (r runner) firstBad(days, changed []int) int {
	for day, hours := range days {
		if slices.Contains(changed, day) {
			r.truths, r.burnt = r.fresh, 0
		}
		if !canBeShown(r.Lamp, r.truths, r.burnt, hours) {
			return day
		}
		r.burnt += hours
	}
	return -1
}

// isTooLong tells whether some day cannot be shown even by a new lamp.
func (r runner) isTooLong(days []int) bool {
	return slices.ContainsFunc(days, func(hours int) bool { return !canBeShown(r.Lamp, r.fresh, 0, hours) })
}

// changesBy tries all days, and returns the fewest changes, each as late as possible, with which each day can be shown; if a new lamp can show each day.
func changesBy(l api.Lamp, burnt int, days []int) ([]int, bool) {
	var best []int
	found, r := false, newRunner(l, burnt)
	if r.isTooLong(days) {
		return nil, false
	}
	eachSubset(len(days), func(changed []int) {
		if found && (len(changed) > len(best) || len(changed) == len(best) && slices.Compare(changed, best) <= 0) {
			return
		}
		if r.firstBad(days, changed) == -1 {
			best, found = changed, true
		}
	})
	return best, found
}

// eachSubset calls a function with all sets of the numbers below one, each in ascending order.
func eachSubset(below int, do func(l []int)) {
	for set := range 1 << below {
		var l []int
		for n := range below {
			if set>>n&1 == 1 {
				l = append(l, n)
			}
		}
		do(l)
	}
}

// Random lamps have few lines, gauges that mostly say what can be, and a norm that they leave while they burn.

func randomSpan(rnd *rand.Rand, low, high, width int) api.Span {
	first := low + rnd.Intn(high-low+1)
	return span(first, first+rnd.Intn(width+1))
}

func randomLamp(rnd *rand.Rand) api.Lamp {
	l := api.Lamp{
		Full: randomSpan(rnd, 80, 100, 6), Fade: randomSpan(rnd, 0, 4, 3),
		Rated: rnd.Intn(api.MaxBurn + 1), Wrong: rnd.Intn(api.MaxWrong + 1),
	}
	l.Norm = span(40+rnd.Intn(40), l.Full.High)
	if rnd.Intn(4) == 0 {
		l.Norm.High -= rnd.Intn(25)
		l.Norm.Low = min(l.Norm.Low, l.Norm.High)
	}
	l.Gauges = gaugesOf(rnd, anyTruth(rnd, l), rnd.Intn(5), rnd.Intn(3))
	return l
}

func anyTruth(rnd *rand.Rand, l api.Lamp) truth {
	within := func(s api.Span) int { return s.Low + rnd.Intn(s.High-s.Low+1) }
	return truth{within(l.Full), within(l.Fade)}
}

// gaugesOf are so many gauges that are right in a truth, and so many others that are wrong, in any order.
func gaugesOf(rnd *rand.Rand, v truth, right, wrong int) []api.Gauge {
	var l []api.Gauge
	for range right {
		hour := rnd.Intn(20)
		l = append(l, gauge(hour, v.light(hour)-rnd.Intn(12), v.light(hour)+rnd.Intn(12)))
	}
	for range wrong {
		hour := rnd.Intn(20)
		low := v.light(hour) + 1 + rnd.Intn(20)
		if rnd.Intn(2) == 0 {
			low = v.light(hour) - 15 - rnd.Intn(20)
		}
		l = append(l, gauge(hour, low, low+rnd.Intn(10)))
	}
	rnd.Shuffle(len(l), func(i, j int) { l[i], l[j] = l[j], l[i] })
	return l
}

func randomDays(rnd *rand.Rand, most int) []int {
	var l []int
	for range rnd.Intn(most + 1) {
		l = append(l, rnd.Intn(9))
	}
	return l
}

// eachLamp calls a function with random lamps.
func eachLamp(seed int64, times int, do func(rnd *rand.Rand, l api.Lamp)) {
	rnd := rand.New(rand.NewSource(seed))
	for range times {
		do(rnd, randomLamp(rnd))
	}
}
