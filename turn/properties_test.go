package turn_test

import (
	"math/rand"
	"slices"
	"testing"

	"bijou/api"
	"bijou/keys"
	"bijou/seats"
	"bijou/turn"
)

func isWithin(n int, s api.Span) bool { return s.Low <= n && n <= s.High }

// P6.2: the earliest and the latest times are those of the fastest and of the slowest evening.
func TestBounds(t *testing.T) {
	eachQuestion(2, 1500, 8, func(_ *rand.Rand, q question) {
		early, late := live(q, fastest(q)), live(q, slowest(q))
		for n, m := range timesOf(q) {
			low, high := early.lives[n].minutes(), late.lives[n].minutes()
			for i, s := range spans(m) {
				if s != span(low[i], high[i]) {
					t.Errorf("Times of %v: %v of the slot %d is not from %d to %d", q, m, n, low[i], high[i])
				}
			}
		}
	})
}

// P6.3: Late is the first show that is late on the slowest evening.
func TestLateBound(t *testing.T) {
	none, some, first := 0, 0, 0
	eachQuestion(3, 1500, 8, func(_ *rand.Rand, q question) {
		slot, by := -1, 0
		for n, x := range live(q, slowest(q)).lives {
			if x.began[running] > q.l[n].Begin {
				slot, by = n, x.began[running]-q.l[n].Begin
				break
			}
		}
		checkLate(t, "random", q, slot, by)
		switch slot {
		case -1:
			none++
		case 0:
			first++
		default:
			some++
		}
	})
	if none < 200 || some < 200 || first < 50 {
		t.Errorf("%d times no show was late, %d times the first one, %d times another one", none, first, some)
	}
}

// P6.9 (whatever happens): everything happens within Times; if Late is -1, each show starts on its minute.
func TestWhateverHappens(t *testing.T) {
	onTime := 0
	eachQuestion(9, 1000, 8, func(rnd *rand.Rand, q question) {
		all, sure := timesOf(q), !canBeLate(q)
		for range 5 {
			v := anyTruth(rnd, q)
			for n, x := range live(q, v).lives {
				minutes := x.minutes()
				for i, s := range spans(all[n]) {
					if !isWithin(minutes[i], s) {
						t.Errorf("%v in %v: %v of the slot %d is not within %v", v, q, minutes, n, all[n])
					}
				}
				if sure && x.began[running] != q.l[n].Begin {
					t.Errorf("%v in %v: the slot %d starts at %d", v, q, n, x.began[running])
				}
				if sure {
					onTime++
				}
			}
		}
	})
	if onTime < 1000 {
		t.Errorf("only %d shows were on time for sure", onTime)
	}
}

// P6.10 (one thing at a time): nobody enters before the screen is clean, a team cleans one screen at a time and walks between, no show starts before its Begin.
func TestOneThingAtATime(t *testing.T) {
	screens, teams := 0, 0
	eachQuestion(10, 3000, 10, func(_ *rand.Rand, q question) {
		all := timesOf(q)
		for n, m := range all {
			if m.Start.Low < q.l[n].Begin {
				t.Errorf("Times of %v: the show %d starts at %d", q, n, m.Start.Low)
			}
			for i, before := range all[:n] {
				if q.l[i].Screen == q.l[n].Screen {
					screens++
					checkNotBefore(t, "enters", q, m.Enter, before.Ready, 0, 0)
				}
				if q.l[i].Team == q.l[n].Team {
					teams++
					checkNotBefore(t, "is cleaned", q, m.Ready, before.Ready, q.h.Walk+q.h.Clean.Low, q.h.Walk+q.h.Clean.High)
				}
			}
		}
	})
	if screens < 5000 || teams < 5000 {
		t.Errorf("%d slots had the same screen, %d the same team", screens, teams)
	}
}

// checkNotBefore tells whether something happens some minutes after something else at the earliest, and at the latest.
func checkNotBefore(t *testing.T, what string, q question, s, other api.Span, low, high int) {
	t.Helper()
	if s.Low < other.Low+low || s.High < other.High+high {
		t.Errorf("Times of %v: who %s from %v, but what is before is done from %v", q, what, s, other)
	}
}

// easier returns a question in which something takes less at the most.
func easier(rnd *rand.Rand, q question) question {
	less := func(s *api.Span) { s.High = s.Low + rnd.Intn(s.High-s.Low+1) }
	return q.with(func(q *question) {
		switch rnd.Intn(4) {
		case 0:
			for n := range q.l {
				less(&q.l[n].Runs)
			}
		case 1:
			less(&q.h.Clean)
		case 2:
			q.h.Walk = rnd.Intn(q.h.Walk + 1)
		case 3:
			q.h.Doors.Low += rnd.Intn(10)
			q.h.Doors.High = max(q.h.Doors.Low, q.h.Doors.High)
		}
	})
}

// P6.11 (easier): if something takes less at the most, or doors are wider, nothing is later at the latest.
func TestEasier(t *testing.T) {
	earlier := 0
	eachQuestion(11, 3000, 8, func(rnd *rand.Rand, q question) {
		less := easier(rnd, q)
		if e := turn.Check(less.h, less.l); e != api.OK {
			t.Fatalf("%v is not sound: %d", less, e)
		}
		before, after := timesOf(q), timesOf(less)
		earlier += checkNotLater(t, q, less, before, after)
		if canBeLate(less) && !canBeLate(q) {
			t.Errorf("some show of %v can be late, but none of %v", less, q)
		}
	})
	if earlier < 1000 {
		t.Errorf("only %d times something was earlier", earlier)
	}
}

// checkNotLater tells whether nothing is later at the latest, and returns how often something is earlier.
func checkNotLater(t *testing.T, q, other question, before, after []api.Moment) int {
	t.Helper()
	earlier := 0
	for n := range before {
		was, is := spans(before[n]), spans(after[n])
		for i := range was {
			if is[i].High > was[i].High {
				t.Errorf("Times of %v: %v, of %v: %v", q, before[n], other, after[n])
			}
			if is[i].High < was[i].High {
				earlier++
			}
		}
	}
	return earlier
}

// P6.4: the least and the most people wait on the fastest and on the slowest evening.
func TestWaitingBounds(t *testing.T) {
	open := 0
	eachQuestion(4, 150, 8, func(_ *rand.Rand, q question) {
		early, late := live(q, fastest(q)), live(q, slowest(q))
		for minute := range len(late.foyer) + 10 {
			want := span(early.waitingAt(minute), late.waitingAt(minute))
			checkWaiting(t, "random", q, minute, want)
			if want.Low < want.High {
				open++
			}
		}
	})
	if open < 1000 {
		t.Errorf("only %d times more people can wait or less", open)
	}
}

// P6.5 and P6.12 (the foyer): as many people wait as Waiting says; before Crowded the foyer is never too full.
func TestFoyer(t *testing.T) {
	never, ever, really := 0, 0, 0
	eachQuestion(12, 600, 8, func(rnd *rand.Rand, q question) {
		slow := live(q, slowest(q))
		tooFull := func(n int) bool { return n > q.h.Foyer }
		want := slices.IndexFunc(slow.foyer, tooFull)
		checkCrowded(t, "random", q, want)
		if want == -1 {
			never++
		} else {
			ever++
		}
		v := live(q, anyTruth(rnd, q))
		for minute, people := range v.foyer {
			if want, _ := turn.Waiting(q.h, q.l, minute); !isWithin(people, want) {
				t.Errorf("%v in %v: %d wait at %d, not %v", v.truth, q, people, minute, want)
			}
		}
		if full := slices.IndexFunc(v.foyer, tooFull); full != -1 {
			really++
			if want == -1 || full < want {
				t.Errorf("%v in %v: the foyer is too full at %d, before %d", v.truth, q, full, want)
			}
		}
	})
	if never < 100 || ever < 100 || really < 50 {
		t.Errorf("the foyer was %d times never too full, %d times it can be, %d times it was", never, ever, really)
	}
}

// randomWaves has three screens, on each of which a show follows another one about when it can be clean.
func randomWaves(rnd *rand.Rand) question {
	q := question{h: randomHouse(rnd)}
	q.h.Early = 8 + rnd.Intn(5)
	run, pause := 20+rnd.Intn(40), 10+rnd.Intn(60)
	for _, wave := range []int{100, 100 + run + pause} {
		for screen := range 3 {
			s := newSlot(screen, wave+rnd.Intn(30), run, run+rnd.Intn(5), rnd.Intn(7*q.h.Doors.Low), 0)
			s.Team = rnd.Intn(q.h.Teams)
			q.l = append(q.l, s)
		}
	}
	slices.SortStableFunc(q.l, func(a, b api.Slot) int { return a.Begin - b.Begin })
	return q
}

// P6.6, P6.7 and P6.13 (teams): with Assign's teams no show can be late; with fewer teams than Fewest some show can be, whoever cleans; with more of them there are such teams, too.
func TestProvenTeams(t *testing.T) {
	fewest := map[int]int{}
	rnd := rand.New(rand.NewSource(13))
	for n := range 1000 {
		q := randomWaves(rnd)
		if n%4 == 0 {
			q = randomQuestion(rnd, 5)
		}
		least := 0
		for teams := api.MaxTeams; teams > 0 && canBeDone(q, teams); teams-- {
			least = teams
		}
		fewest[least]++
		if least == 0 {
			checkNoTeams(t, "random", q, api.ErrNone)
			continue
		}
		checkFewest(t, "random", q, least)
		for teams := 1; teams <= api.MaxTeams; teams++ {
			checkTeams(t, q, teams, teams >= least)
		}
	}
	if fewest[0] < 100 || fewest[1] < 100 || fewest[2] < 100 || fewest[3] < 30 {
		t.Errorf("so often so many teams were the fewest: %v", fewest)
	}
}

// checkTeams tells whether Assign finds teams if a house has so many, and finds none if there are none.
func checkTeams(t *testing.T, q question, teams int, some bool) {
	t.Helper()
	q = q.with(func(q *question) {
		q.h.Teams = teams
		for n := range q.l {
			q.l[n].Team %= teams
		}
	})
	if some {
		checkAssign(t, "random", q)
	} else if l, e := turn.Assign(q.h, q.l); len(l) != 0 || e != api.ErrNone {
		t.Errorf("Assign of %v = %v, %d, but some show can be late", q, l, e)
	}
}

// P6.6 and P6.7: the teams that slots have, and for Fewest how many teams there are, do not matter.
func TestTeamsDoNotMatter(t *testing.T) {
	eachQuestion(6, 1000, 8, func(rnd *rand.Rand, q question) {
		q = q.with(func(q *question) { q.h.Early, q.h.Doors = 30, span(10, 10) })
		other := q.with(func(q *question) {
			for n := range q.l {
				q.l[n].Team = rnd.Intn(q.h.Teams)
			}
		})
		_, e1 := turn.Assign(q.h, q.l)
		if _, e2 := turn.Assign(other.h, other.l); e1 != e2 {
			t.Errorf("Assign of %v: %d, of %v: %d", q, e1, other, e2)
		}
		other.h.Teams = api.MaxTeams
		n, e1 := turn.Fewest(q.h, q.l)
		if m, e2 := turn.Fewest(other.h, other.l); n != m || e1 != e2 {
			t.Errorf("Fewest of %v = %d, %d, of %v = %d, %d", q, n, e1, other, m, e2)
		}
	})
}

// P6.8 and P6.14 (one more show): with the Begin of Next the show cannot be late, with an earlier one it can, or is not valid; nothing before it changes.
func TestOneMoreShow(t *testing.T) {
	some, none := 0, 0
	eachQuestion(14, 400, 8, func(rnd *rand.Rand, q question) {
		s := randomSlot(rnd, q.h)
		if rnd.Intn(8) == 0 {
			q.h.Doors = span(1, 1)
		}
		begin, e := turn.Next(q.h, q.l, s)
		if e != api.OK {
			none++
			if e != api.ErrNone || begin != 0 {
				t.Errorf("Next of %v in %v = %d, %d", s, q, begin, e)
			}
			begin = api.MaxBegin + 1
		} else {
			some++
			if !canBeNext(t, q, s, begin) {
				t.Errorf("Next of %v in %v = %d, but it is not valid, or can be late", s, q, begin)
			}
		}
		for earlier := range begin {
			if canBeNext(t, q, s, earlier) {
				t.Errorf("Next of %v in %v = %d, %d, but %d is valid and cannot be late", s, q, begin, e, earlier)
			}
		}
	})
	if some < 100 || none < 50 {
		t.Errorf("%d slots had a Begin, %d had none", some, none)
	}
}

// canBeNext tells whether one more slot is valid with a Begin, and its show cannot be late.
func canBeNext(t *testing.T, q question, s api.Slot, begin int) bool {
	t.Helper()
	s.Begin = begin
	after := q.with(func(q *question) { q.l = append(q.l, s) })
	if turn.Check(after.h, after.l) != api.OK {
		return false
	}
	all := timesOf(after)
	if last := len(q.l); !slices.Equal(all[:last], timesOf(q)) {
		t.Errorf("Times of %v are %v, with %v behind them %v", q, timesOf(q), s, all)
	}
	return all[len(q.l)].Start.High == begin
}

// P0.11 (the open key): if a version can play from the earliest and from the latest minute at which its show can start, and these are at most as far from each other as it is long, it can play whenever the show really starts.
func TestOpenKey(t *testing.T) {
	open := 0
	eachQuestion(111, 400, 6, func(rnd *rand.Rand, q question) {
		for n, m := range timesOf(q) {
			start := m.Start
			lib := library(rnd, q.l[n].Runs.High, start)
			if start.High-start.Low > q.l[n].Runs.High || !canPlay(lib, start.Low) || !canPlay(lib, start.High) {
				continue
			}
			open += start.High - start.Low
			for range 10 {
				from := live(q, anyTruth(rnd, q)).lives[n].began[running]
				if !canPlay(lib, from) {
					t.Errorf("%v cannot play from %d, which is within %v", lib, from, start)
				}
			}
		}
	})
	if open < 500 {
		t.Errorf("versions could play only for %d minutes", open)
	}
}

// library has the version 1 of so many minutes, and keys that open it on the screen 1, mostly around the minutes at which its show can start.
func library(rnd *rand.Rand, minutes int, start api.Span) api.Library {
	l := api.Library{
		Assets:  []api.Asset{{Id: 1, Sum: 1}},
		Comps:   []api.Comp{{Id: 1, Minutes: minutes, Locked: true, Assets: []int{1}}},
		Screens: []api.Server{{Id: 1, Devices: []int{1}, Files: []api.Asset{{Id: 1, Sum: 1}}}},
	}
	for id := range 3 {
		from := max(0, start.Low-2+rnd.Intn(minutes+2)*id)
		l.Keys = append(l.Keys, api.Key{Id: id, Comp: 1, Devices: []int{1}, From: from, To: from + minutes + rnd.Intn(minutes+4)})
	}
	return l
}

func canPlay(l api.Library, from int) bool {
	reason, _, e := keys.Why(l, 1, 1, from)
	return e == api.OK && reason == api.NoLack
}

// P0.12 (the dropped order): if one more order is dropped, no show that these seats fill is seated, or starts, or leaves its screen clean later.
func TestDroppedOrder(t *testing.T) {
	earlier := 0
	eachQuestion(112, 500, 6, func(rnd *rand.Rand, q question) {
		if len(q.l) == 0 {
			return
		}
		calls := randomCalls(rnd)
		last := calls[len(calls)-1]
		dropped := append(slices.Clone(calls), api.Call{Id: last.Id + 1, At: last.At + 1, Kind: api.DropSeats, Order: rnd.Intn(last.Order + 1)})
		q.h.Doors = span(1, 2)
		n := rnd.Intn(len(q.l))
		q.l[n].Crowd = taken(calls, last.At+1)
		less := q.with(func(q *question) { q.l[n].Crowd = taken(dropped, last.At+1) })
		earlier += checkNotLater(t, q, less, timesOf(q), timesOf(less))
	})
	if earlier < 200 {
		t.Errorf("only %d times something was earlier", earlier)
	}
}

// randomCalls are orders that ask one after the other, and mostly pay at once.
func randomCalls(rnd *rand.Rand) []api.Call {
	var l []api.Call
	for order := range 1 + rnd.Intn(8) {
		l = append(l, api.Call{Id: 2 * order, At: order, Kind: api.AskSeats, Order: order, Size: 1 + rnd.Intn(6)})
		if rnd.Intn(4) > 0 {
			l = append(l, api.Call{Id: 2*order + 1, At: order, Kind: api.PaySeats, Order: order})
		}
	}
	return l
}

// taken returns how many seats of a hall are held or sold after a minute.
func taken(l []api.Call, minute int) int {
	rows, _ := seats.Map(api.Hall{Rows: []int{12, 8, 4}, Hold: 600}, l, minute)
	n := 0
	for _, row := range rows {
		for _, order := range row {
			if order != -1 {
				n++
			}
		}
	}
	return n
}
