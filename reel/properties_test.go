package reel_test

import (
	"math/rand"
	"slices"
	"testing"

	"bijou/api"
	"bijou/reel"
)

// choose takes a block out for each tear that has one, and returns what is left.
func choose(rnd *rand.Rand, r api.Reel) (there string, ok bool) {
	there = setOf(r.Feet, upTo(r.Feet))
	for _, m := range r.Marks {
		room := m.To - m.From + 1
		if m.Kind != api.Torn {
			continue
		}
		if m.Count.Low > room {
			return "", false
		}
		size := m.Count.Low + rnd.Intn(min(m.Count.High, room)-m.Count.Low+1)
		first := m.From + rnd.Intn(room-size+1)
		there = cut(there, first, size)
	}
	return there, true
}

// P1.11 (what is true).
func TestWhatIsTrue(t *testing.T) {
	rnd := rand.New(rand.NewSource(11))
	tried := 0
	for range 300 {
		r := randomReel(rnd, 1+rnd.Intn(16), rnd.Intn(7), 0)
		there, ok := choose(rnd, r)
		if !ok {
			continue
		}
		for range 3 {
			if m := randomClaim(rnd, r.Feet); isTrue(m, there) {
				r.Marks = append(r.Marks, m)
			}
		}
		tried++
		checkTruth(t, r, there)
	}
	if tried < 50 {
		t.Errorf("only %d reels were tried", tried)
	}
}

func checkTruth(t *testing.T, r api.Reel, there string) {
	t.Helper()
	if n, e := reel.Many(r); n < 1 || e != api.OK {
		t.Errorf("Many of %v = %d, %d, but %s is a truth", r, n, e, there)
	}
	for n := range r.Feet {
		k, e := reel.Foot(r, n)
		if e != api.OK || k == api.Away && there[n] == 'x' || k == api.Here && there[n] == '-' {
			t.Errorf("Foot %d of %v = %d, %d, but %s is a truth", n, r, k, e, there)
		}
	}
	left, _ := reel.Left(r)
	splices, _ := reel.Splices(r)
	longest, _ := reel.Longest(r)
	if !within(left, number(there)) || !within(splices, spliceNumber(there)) || !within(longest, longestRow(there)) {
		t.Errorf("Left, Splices, Longest of %v = %v, %v, %v, but %s is a truth", r, left, splices, longest, there)
	}
}

// P1.12 (more is known).
func TestMoreIsKnown(t *testing.T) {
	rnd := rand.New(rand.NewSource(12))
	for range 200 {
		r := randomReel(rnd, 1+rnd.Intn(10), rnd.Intn(5), rnd.Intn(2))
		more := with(r, randomClaim(rnd, r.Feet))
		many, _ := reel.Many(r)
		fewer, _ := reel.Many(more)
		if fewer > many {
			t.Errorf("%v has %d truths, %v has %d", r, many, more, fewer)
		}
		if fewer == 0 {
			continue
		}
		wide, _ := spans(r)
		narrow, _ := spans(more)
		for i := range wide {
			if !inside(narrow[i], wide[i]) {
				t.Errorf("span %d of %v is %v, of %v it is %v", i, r, wide[i], more, narrow[i])
			}
		}
	}
}

// P1.13 (in any order).
func TestInAnyOrder(t *testing.T) {
	rnd := rand.New(rand.NewSource(13))
	for range 200 {
		r := randomReel(rnd, 1+rnd.Intn(10), rnd.Intn(5), rnd.Intn(3))
		other := clone(r)
		rnd.Shuffle(len(other.Marks), func(i, j int) { other.Marks[i], other.Marks[j] = other.Marks[j], other.Marks[i] })
		compareReels(t, r, other, func(n int) int { return n })
		a, _ := reel.Lacks([]api.Reel{r})
		b, _ := reel.Lacks([]api.Reel{other})
		if !slices.Equal(a, b) {
			t.Errorf("Lacks of %v is %v, of %v it is %v", r, a, other, b)
		}
	}
}

// P1.14 (backwards).
func TestBackwards(t *testing.T) {
	rnd := rand.New(rand.NewSource(14))
	for range 200 {
		r := randomReel(rnd, 1+rnd.Intn(16), rnd.Intn(4), rnd.Intn(3))
		turn := func(n int) int { return r.Feet - 1 - n }
		other := clone(r)
		for i, m := range other.Marks {
			if m.Kind == api.Torn || m.Kind == api.Seen || m.Kind == api.Gone {
				other.Marks[i].From, other.Marks[i].To = turn(m.To), turn(m.From)
			}
		}
		compareReels(t, r, other, turn)
	}
}

// compareReels checks that everything is the same of two reels, if the feet of the first one have other numbers on the second one.
func compareReels(t *testing.T, a, b api.Reel, number func(int) int) {
	t.Helper()
	n, _ := reel.Many(a)
	m, _ := reel.Many(b)
	f, _ := reel.Fewest(a)
	g, _ := reel.Fewest(b)
	if n != m || f != g {
		t.Errorf("Many and Fewest of %v are %d, %d, of %v they are %d, %d", a, n, f, b, m, g)
	}
	for _, call := range []func(api.Reel) (api.Span, api.Errno){reel.Left, reel.Splices, reel.Longest} {
		s, e := call(a)
		u, f := call(b)
		if s != u || e != f {
			t.Errorf("a span of %v is %v, %d, of %v it is %v, %d", a, s, e, b, u, f)
		}
	}
	for from := range a.Feet {
		k, e := reel.Foot(a, from)
		l, f := reel.Foot(b, number(from))
		if k != l || e != f {
			t.Errorf("Foot %d of %v is %d, %d, of %v it is %d, %d", from, a, k, e, b, l, f)
		}
		for to := from; to < a.Feet; to++ {
			s, e := reel.Whole(a, from, to)
			u, f := reel.Whole(b, min(number(from), number(to)), max(number(from), number(to)))
			if s != u || e != f {
				t.Errorf("Whole %d to %d of %v is %v, %d, of %v it is %v, %d", from, to, a, s, e, b, u, f)
			}
		}
	}
}

// P1.15 (tears).
func TestTears(t *testing.T) {
	rnd := rand.New(rand.NewSource(15))
	grown := false
	for range 200 {
		tears := rnd.Intn(6)
		r := randomReel(rnd, 1+rnd.Intn(10), tears, 0)
		some := with(r, randomClaim(rnd, r.Feet))
		if s, e := reel.Splices(some); e == api.OK && s.High > tears {
			t.Errorf("Splices of %v is %v", some, s)
		}
		if n, _ := reel.Many(r); n == 0 {
			continue
		}
		more := with(r, randomTear(rnd, r.Feet))
		if n, _ := reel.Many(more); n == 0 {
			continue
		}
		before, _ := spans(r)
		after, _ := spans(more)
		last := len(before) - 1
		for i := range before {
			can := 0
			if i == last {
				can = 1
			}
			if after[i].High > before[i].High+can {
				t.Errorf("span %d of %v is %v, of %v it is %v", i, r, before[i], more, after[i])
			}
		}
		grown = grown || after[last].High > before[last].High
	}
	if !grown {
		t.Error("no tear made one more splice")
	}
}

// P1.16 (the liars).
func TestLiars(t *testing.T) {
	rnd := rand.New(rand.NewSource(16))
	for range 300 {
		r := randomReel(rnd, 1+rnd.Intn(10), rnd.Intn(5), rnd.Intn(6))
		fewest, e := reel.Fewest(r)
		many, _ := reel.Many(r)
		if e != api.OK || (many > 0) != (fewest == 0) {
			t.Errorf("Fewest of %v = %d, %d, but there are %d truths", r, fewest, e, many)
		}
		less := false
		for i, m := range r.Marks {
			n, _ := reel.Fewest(without(r, i))
			if n < fewest-1 || m.Kind != api.Torn && n > fewest {
				t.Errorf("Fewest of %v = %d, but %d without the mark %d", r, fewest, n, i)
			}
			less = less || n == fewest-1
		}
		if fewest > 0 && !less {
			t.Errorf("Fewest of %v = %d, and no less without any mark", r, fewest)
		}
	}
}

// P1.17 (put together).
func TestPutTogether(t *testing.T) {
	rnd := rand.New(rand.NewSource(17))
	for range 200 {
		length := 1 + rnd.Intn(16)
		var l []api.Reel
		for range 4 {
			if r := randomReel(rnd, length, rnd.Intn(4), rnd.Intn(2)); len(l) == 0 || rnd.Intn(4) > 0 {
				if n, _ := reel.Many(r); n > 0 {
					l = append(l, r)
				}
			}
		}
		if len(l) == 0 {
			continue
		}
		lack, e := reel.Lacks(l)
		if e != api.OK || !slices.IsSorted(lack) {
			t.Errorf("Lacks of %v = %v, %d", l, lack, e)
		}
		for n := range length {
			here := slices.ContainsFunc(l, func(r api.Reel) bool { k, _ := reel.Foot(r, n); return k == api.Here })
			if here == slices.Contains(lack, n) {
				t.Errorf("Lacks of %v = %v, but the foot %d is surely there: %v", l, lack, n, here)
			}
		}
		before, _ := reel.Lacks(l[:len(l)-1])
		for _, n := range lack {
			if len(l) > 1 && !slices.Contains(before, n) {
				t.Errorf("Lacks of %v = %v, but %v without the last one", l, lack, before)
			}
		}
	}
}
