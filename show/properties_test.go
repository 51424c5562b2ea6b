package show_test

import (
	"math/rand"
	"slices"
	"testing"

	"bijou/api"
	"bijou/keys"
	"bijou/reel"
	"bijou/show"
)

// chosen is a number of a span, often its first or its last one.
func chosen(rnd *rand.Rand, s api.Span) int {
	switch rnd.Intn(3) {
	case 0:
		return s.Low
	case 1:
		return s.High
	}
	return s.Low + rnd.Intn(s.High-s.Low+1)
}

// realFilm runs a film that can run, with some lengths and some threading.
func realFilm(rnd *rand.Rand, s api.Show, item api.Item) (begins, lengths []int, towers, end int) {
	var spans []api.Span
	var threads []int
	for _, n := range item.Reels {
		left, _ := reel.Left(s.Reels[n])
		spans = append(spans, left)
		lengths = append(lengths, chosen(rnd, left))
		threads = append(threads, chosen(rnd, s.Booth.Thread))
	}
	towers, _ = way(s.Booth, spans)
	begins, end = evening(towers, lengths, threads)
	return begins, lengths, towers, end
}

// P3.7 (the real evening).
func TestRealEvening(t *testing.T) {
	rnd := rand.New(rand.NewSource(7))
	played, ran := 0, 0
	for range 2000 {
		base := randomBase(rnd)
		s, from := anyShow(rnd, base), randomStart(rnd, base)
		begins, end, e := show.Times(s, from)
		if e != api.OK {
			continue
		}
		lacks, _ := show.Lacks(s, from)
		for range 5 {
			now := from
			for i, item := range s.Items {
				if !within(begins[i], now) {
					t.Errorf("the item %d of %v begins at %d, not within %v", i, s, now, begins[i])
				}
				switch item.Kind {
				case api.Spots:
					now += chosen(rnd, item.Length)
				case api.Film:
					now += checkRealFilm(t, rnd, s, i)
					ran++
				case api.Pack:
					if lackOf(lacks, i).Reason == 0 {
						checkRealPack(t, s, item.Comp, now)
						played++
					}
					now += itemByTrying(s, item).takes.Low
				}
			}
			if !within(end, now) {
				t.Errorf("%v ends at %d, not within %v", s, now, end)
			}
		}
	}
	if played < 500 || ran < 500 {
		t.Errorf("only %d packages were played, and %d films run", played, ran)
	}
}

// checkRealFilm tells whether each reel of a film begins within Reels, and returns how long the film takes.
func checkRealFilm(t *testing.T, rnd *rand.Rand, s api.Show, i int) int {
	t.Helper()
	bounds, e := show.Reels(s, i)
	begins, _, _, end := realFilm(rnd, s, s.Items[i])
	if e != api.OK || len(bounds) != len(begins) {
		t.Fatalf("Reels of %v, %d: %v, %d", s, i, bounds, e)
	}
	for n, begin := range begins {
		if !within(bounds[n], begin) {
			t.Errorf("the reel %d of the film %d of %v begins at %d, not within %v", n, i, s, begin, bounds[n])
		}
	}
	return end
}

func checkRealPack(t *testing.T, s api.Show, comp, minute int) {
	t.Helper()
	if !canPlay(s, comp, minute) {
		t.Errorf("the composition %d of %v cannot play at %d, but nothing lacks", comp, s, minute)
	}
}

// P3.8 (nothing lacks).
func TestNothingLacks(t *testing.T) {
	rnd := rand.New(rand.NewSource(8))
	films := 0
	for range 4000 {
		s := anyShow(rnd, 0)
		lacks, _ := show.Lacks(s, 0)
		for i, item := range s.Items {
			if item.Kind != api.Film || lackOf(lacks, i).Reason != 0 {
				continue
			}
			begins, lengths, towers, end := realFilm(rnd, s, item)
			now := 0
			for n, begin := range begins {
				if begin != now {
					t.Errorf("the reel %d of the film %d of %v begins at %d, not at %d", n, i, s, begin, now)
				}
				now += lengths[n]
			}
			if end != now {
				t.Errorf("the film %d of %v takes %d minutes, not %d", i, s, end, now)
			}
			if towers > 0 && len(begins) > 2 {
				films++
			}
			checkTakesAsReels(t, s, i)
		}
	}
	if films < 100 {
		t.Errorf("only %d films of at least three reels on towers", films)
	}
}

// checkTakesAsReels tells whether a film has just the times of its reels without any pause.
func checkTakesAsReels(t *testing.T, s api.Show, i int) {
	t.Helper()
	var want []api.Span
	var sum api.Span
	for _, n := range s.Items[i].Reels {
		want = append(want, sum)
		left, _ := reel.Left(s.Reels[n])
		sum = span(sum.Low+left.Low, sum.High+left.High)
	}
	if l, e := show.Reels(s, i); !slices.Equal(l, want) || e != api.OK {
		t.Errorf("Reels of %v, %d: %v, %d, not %v", s, i, l, e, want)
	}
	alone := with(s, func(s *api.Show) { s.Items = s.Items[i : i+1] })
	if _, end, e := show.Times(alone, 0); end != sum || e != api.OK {
		t.Errorf("%v ends at %v, %d, not at %v", alone, end, e, sum)
	}
}

// checkNotLater tells whether no item can begin later in a show than in one that was before.
func checkNotLater(t *testing.T, before, after api.Show, from int) (compared bool) {
	t.Helper()
	old, oldEnd, e := show.Times(before, from)
	now, nowEnd, f := show.Times(after, from)
	if e != api.OK || f != api.OK {
		return false
	}
	for i := range old {
		if now[i].Low > old[i].Low || now[i].High > old[i].High {
			t.Errorf("the item %d of %v begins at %v, but later, at %v, of %v", i, before, old[i], now[i], after)
		}
	}
	if nowEnd.Low > oldEnd.Low || nowEnd.High > oldEnd.High {
		t.Errorf("%v ends at %v, but later, at %v, %v", before, oldEnd, nowEnd, after)
	}
	return slices.ContainsFunc(before.Items, func(item api.Item) bool { return item.Kind == api.Film })
}

// P3.9 (a quicker hand).
func TestQuickerHand(t *testing.T) {
	rnd := rand.New(rand.NewSource(9))
	compared, moved := 0, 0
	for range 3000 {
		base := randomBase(rnd)
		s, from := anyShow(rnd, base), randomStart(rnd, base)
		quicker := with(s, func(s *api.Show) {
			if rnd.Intn(2) == 0 && s.Booth.Thread.Low < s.Booth.Thread.High {
				s.Booth.Thread.High--
			} else {
				s.Booth.Platter += 1 + rnd.Intn(20)
			}
		})
		if checkNotLater(t, s, quicker, from) {
			compared++
		}
		lacks, _ := show.Lacks(s, from)
		now, e := show.Lacks(quicker, from)
		for i, item := range s.Items {
			was, is := lackOf(lacks, i), lackOf(now, i)
			if item.Kind == api.Film && was.Reason == 0 && is.Reason != 0 || e != api.OK {
				t.Errorf("of the film %d of %v nothing lacks, but %v of %v", i, s, is, quicker)
			}
			if item.Kind == api.Film && was.Reason == api.Pause && is.Reason == 0 {
				moved++
			}
		}
	}
	if compared < 500 || moved < 20 {
		t.Errorf("only %d shows with films were compared, only %d films lost a pause", compared, moved)
	}
}

// P3.10 (first).
func TestFirstAgainstEachMinute(t *testing.T) {
	rnd := rand.New(rand.NewSource(10))
	found, waited := 0, 0
	for range 1500 {
		base := randomBase(rnd)
		s, from := randomShow(rnd, base), randomStart(rnd, base)
		to := min(api.MaxClock, max(0, from-2+rnd.Intn(40)))
		want, e := 0, api.ErrNone
		for minute := to; minute >= from; minute-- {
			if nothingLacks(s, minute) {
				want, e = minute, api.OK
			}
		}
		if n, f := show.First(s, from, to); n != want || f != e {
			t.Errorf("First of %v from %d to %d: %d, %d, not %d, %d", s, from, to, n, f, want, e)
		}
		if e == api.OK {
			found++
		}
		if want > from {
			waited++
		}
	}
	if found < 200 || waited < 30 {
		t.Errorf("only %d minutes were found, %d of which are not the given one", found, waited)
	}
}

// P3.11 (another order).
func TestAnotherOrder(t *testing.T) {
	rnd := rand.New(rand.NewSource(11))
	found := 0
	for range 800 {
		base := randomBase(rnd)
		s, from := anyShow(rnd, base), randomStart(rnd, base)
		if order, e := show.Order(s, from); e == api.OK {
			found++
			each := slices.Sorted(slices.Values(order))
			if !slices.Equal(each, upTo(len(s.Items))) || !nothingLacks(ordered(s, order), from) {
				t.Errorf("Order of %v from %d: %v", s, from, order)
			}
		}
		_, end, e := show.Times(s, from)
		other := ordered(s, rnd.Perm(len(s.Items)))
		if _, otherEnd, f := show.Times(other, from); otherEnd != end || e != f {
			t.Errorf("%v ends at %v, %d, but %v at %v, %d", s, end, e, other, otherEnd, f)
		}
	}
	if found < 200 {
		t.Errorf("only %d orders were found", found)
	}
}

// P3.12 (later).
func TestLater(t *testing.T) {
	rnd := rand.New(rand.NewSource(12))
	for range 1000 {
		s, from := anyShow(rnd, 0), rnd.Intn(api.MaxClock+1)
		later := rnd.Intn(api.MaxClock - from + 1)
		begins, end, e := show.Times(s, from)
		now, nowEnd, f := show.Times(s, from+later)
		if e != f {
			t.Fatalf("Times of %v from %d: %d, %d minutes later: %d", s, from, e, later, f)
		}
		if e != api.OK {
			continue
		}
		for i := range begins {
			if now[i] != span(begins[i].Low+later, begins[i].High+later) {
				t.Errorf("the item %d of %v begins at %v, but %d minutes later at %v", i, s, begins[i], later, now[i])
			}
		}
		if nowEnd != span(end.Low+later, end.High+later) {
			t.Errorf("%v ends at %v, but %d minutes later at %v", s, end, later, nowEnd)
		}
	}
}

// P0.1 (the shortened print): with one more tear in a reel of which nothing but tears is known no item begins later.
func TestShortenedPrint(t *testing.T) {
	rnd := rand.New(rand.NewSource(101))
	isNoTear := func(m api.Mark) bool { return m.Kind != api.Torn }
	compared := 0
	for range 3000 {
		base := randomBase(rnd)
		s, from := anyShow(rnd, base), randomStart(rnd, base)
		if len(s.Reels) == 0 {
			continue
		}
		n := rnd.Intn(len(s.Reels))
		if rnd.Intn(3) > 0 {
			s.Reels[n].Marks = slices.DeleteFunc(s.Reels[n].Marks, isNoTear)
		}
		if slices.ContainsFunc(s.Reels[n].Marks, isNoTear) {
			continue
		}
		shorter := with(s, func(s *api.Show) {
			s.Reels[n].Marks = append(s.Reels[n].Marks, randomTear(rnd, s.Reels[n].Feet))
		})
		if checkNotLater(t, s, shorter, from) {
			compared++
		}
	}
	if compared < 500 {
		t.Errorf("only %d shows with films were compared", compared)
	}
}

// P0.2 (the keys that come late): where nothing lacked, nothing lacks with more keys, and such a package can play from each minute at which it can begin.
func TestLateKeys(t *testing.T) {
	rnd := rand.New(rand.NewSource(102))
	played, opened := 0, 0
	for range 2000 {
		base := randomBase(rnd)
		s, from := anyShow(rnd, base), randomStart(rnd, base)
		var late []api.Key
		for range 1 + rnd.Intn(3) {
			id := 40 + len(late)
			k := randomKey(rnd, id, base)
			k.Comp = 2 + rnd.Intn(3)
			late = append(late, k)
		}
		l, e := keys.Merge(s.Library, late, nil)
		if e != api.OK {
			t.Fatalf("Merge of %v: %d", late, e)
		}
		after := with(s, func(s *api.Show) { s.Library = l })
		old, _ := show.Lacks(s, from)
		now, f := show.Lacks(after, from)
		if f != api.OK {
			t.Errorf("Lacks of %v: %d", after, f)
		}
		begins, _ := timesByTrying(quickItems(s), from)
		for i, item := range s.Items {
			was, is := lackOf(old, i).Reason, lackOf(now, i).Reason
			if was == 0 && is != 0 {
				t.Errorf("of the item %d of %v at %d nothing lacks, but with the keys %v: %d", i, s, from, late, is)
			}
			if was != 0 && is == 0 {
				opened++
			}
			for minute := begins[i].Low; item.Kind == api.Pack && is == 0 && minute <= begins[i].High; minute++ {
				checkRealPack(t, after, item.Comp, minute)
				played++
			}
		}
	}
	if played < 500 || opened < 20 {
		t.Errorf("only %d packages were played, only %d opened", played, opened)
	}
}

// quickItems are the times of all items by asking for one film after the other, as far as they can run.
func quickItems(s api.Show) []known {
	var l []known
	for _, item := range s.Items {
		alone := with(s, func(s *api.Show) { s.Items = []api.Item{item} })
		_, takes, _ := show.Times(alone, 0)
		l = append(l, known{takes: takes})
	}
	return l
}
