package turn_test

import (
	"math"
	"slices"
	"testing"

	"bijou/api"
	"bijou/turn"
)

// P6.1: Check returns the first error of a house and slots.
func TestCheck(t *testing.T) {
	for name, x := range faulty() {
		q := example().with(x.change)
		if e := turn.Check(q.h, q.l); e != x.e {
			t.Errorf("%s: Check = %d, not %d", name, e, x.e)
		}
	}
	for i, q := range sound() {
		if e := turn.Check(q.h, q.l); e != api.OK {
			t.Errorf("sound question %d: Check = %d", i, e)
		}
	}
}

// checkErrors tells whether all calls return an error with zero values.
func checkErrors(t *testing.T, name string, q question, minute int, s api.Slot, want api.Errno) {
	t.Helper()
	if l, e := turn.Times(q.h, q.l); len(l) != 0 || e != want {
		t.Errorf("%s: Times = %v, %d, not error %d", name, l, e, want)
	}
	if slot, by, e := turn.Late(q.h, q.l); slot != 0 || by != 0 || e != want {
		t.Errorf("%s: Late = %d, %d, %d, not error %d", name, slot, by, e, want)
	}
	if n, e := turn.Crowded(q.h, q.l); n != 0 || e != want {
		t.Errorf("%s: Crowded = %d, %d, not error %d", name, n, e, want)
	}
	checkWaitingError(t, name, q, minute, want)
	checkNoTeams(t, name, q, want)
	checkNextError(t, name, q, s, want)
}

func checkWaitingError(t *testing.T, name string, q question, minute int, want api.Errno) {
	t.Helper()
	if n, e := turn.Waiting(q.h, q.l, minute); n != (api.Span{}) || e != want {
		t.Errorf("%s: Waiting at %d = %v, %d, not error %d", name, minute, n, e, want)
	}
}

// checkNoTeams tells whether Assign and Fewest return an error.
func checkNoTeams(t *testing.T, name string, q question, want api.Errno) {
	t.Helper()
	if l, e := turn.Assign(q.h, q.l); len(l) != 0 || e != want {
		t.Errorf("%s: Assign = %v, %d, not error %d", name, l, e, want)
	}
	if n, e := turn.Fewest(q.h, q.l); n != 0 || e != want {
		t.Errorf("%s: Fewest = %d, %d, not error %d", name, n, e, want)
	}
}

func checkNextError(t *testing.T, name string, q question, s api.Slot, want api.Errno) {
	t.Helper()
	if n, e := turn.Next(q.h, q.l, s); n != 0 || e != want {
		t.Errorf("%s: Next of %v = %d, %d, not error %d", name, s, n, e, want)
	}
}

// P1: every function returns the error of the house, then that of the slots, before any other one, with zero values.
func TestErrorsOfQuestions(t *testing.T) {
	for name, x := range faulty() {
		q := example().with(x.change)
		checkErrors(t, name, q, 0, newSlot(0, 0, 1, 1, 0, 0), x.e)
		checkErrors(t, name, q, -1, newSlot(-1, 0, 1, 1, 0, 0), x.e)
		checkErrors(t, name, q, 10000, newSlot(0, 0, 1, 1, 500, 0), x.e)
	}
}

// P6.4 and P1: a minute that is no time is ErrArg.
func TestErrorsOfMinutes(t *testing.T) {
	for _, q := range append(sound(), example()) {
		for how, minute := range outside(0, 9999) {
			checkWaitingError(t, how, q, minute, api.ErrArg)
		}
		for _, minute := range []int{0, 9999} {
			if _, e := turn.Waiting(q.h, q.l, minute); e != api.OK {
				t.Errorf("Waiting of %v at %d: %d", q, minute, e)
			}
		}
	}
}

// P6.8 and P1: a slot that is not as described is ErrArg, before ErrNone; its Begin does not matter.
func TestErrorsOfNext(t *testing.T) {
	fields := map[string]struct {
		first, last int
		field       func(s *api.Slot) *int
	}{
		"Screen":    {0, 5, func(s *api.Slot) *int { return &s.Screen }},
		"Runs.Low":  {1, 400, func(s *api.Slot) *int { return &s.Runs.Low }},
		"Runs.High": {1, 400, func(s *api.Slot) *int { return &s.Runs.High }},
		"Crowd":     {0, 500, func(s *api.Slot) *int { return &s.Crowd }},
		"Team":      {0, 0, func(s *api.Slot) *int { return &s.Team }},
	}
	hopeless := example().with(func(q *question) { q.h.Early = 0 })
	for name, x := range fields {
		for how, n := range outside(x.first, x.last) {
			s := newSlot(2, 0, 1, 400, 10, 0)
			*x.field(&s) = n
			checkNextError(t, name+" "+how, example(), s, api.ErrArg)
			checkNextError(t, name+" "+how, hopeless, s, api.ErrArg)
		}
	}
	checkNextError(t, "Runs.Low above High", example(), newSlot(2, 0, 61, 60, 10, 0), api.ErrArg)
	checkNextError(t, "nothing at all", example(), api.Slot{}, api.ErrArg)
	checkNextError(t, "a late show", hopeless, newSlot(2, 0, 1, 400, 10, 0), api.ErrNone)
	for how, begin := range outside(0, 2000) {
		checkNext(t, "a Begin "+how, example(), newSlot(2, begin, 1, 400, 10, 0), 230)
	}
	few := full().with(func(q *question) { q.l = q.l[:11] })
	checkNextError(t, "12 slots", full(), newSlot(0, 0, 1, 1, 0, 0), api.ErrArg)
	checkNextError(t, "12 slots and a Team 4", full(), newSlot(0, 0, 1, 1, 0, 4), api.ErrArg)
	checkNextError(t, "11 slots and a Team 4", few, newSlot(0, 0, 1, 1, 0, 4), api.ErrArg)
	eleven := few.with(func(q *question) {
		for n := range q.l {
			q.l[n] = newSlot(0, 20+n, 1, 1, 0, 3)
		}
	})
	checkNext(t, "11 slots", eleven, newSlot(5, 0, 1, 1, 0, 3), 30)
}

func checkLate(t *testing.T, name string, q question, slot, by int) {
	t.Helper()
	if n, m, e := turn.Late(q.h, q.l); n != slot || m != by || e != api.OK {
		t.Errorf("%s: Late = %d, %d, %d, not %d, %d", name, n, m, e, slot, by)
	}
}

func checkTimes(t *testing.T, name string, q question, want ...api.Moment) {
	t.Helper()
	if l, e := turn.Times(q.h, q.l); !slices.Equal(l, want) || e != api.OK {
		t.Errorf("%s: Times = %v, %d, not %v", name, l, e, want)
	}
}

func checkWaiting(t *testing.T, name string, q question, minute int, want api.Span) {
	t.Helper()
	if n, e := turn.Waiting(q.h, q.l, minute); n != want || e != api.OK {
		t.Errorf("%s: Waiting at %d = %v, %d, not %v", name, minute, n, e, want)
	}
}

func checkCrowded(t *testing.T, name string, q question, want int) {
	t.Helper()
	if n, e := turn.Crowded(q.h, q.l); n != want || e != api.OK {
		t.Errorf("%s: Crowded = %d, %d, not %d", name, n, e, want)
	}
}

// checkAssign tells whether Assign returns teams of the house with which no show can be late.
func checkAssign(t *testing.T, name string, q question) {
	t.Helper()
	l, e := turn.Assign(q.h, q.l)
	if e != api.OK || len(l) != len(q.l) {
		t.Errorf("%s: Assign = %v, %d", name, l, e)
		return
	}
	after := q.cleanedBy(l)
	if e := turn.Check(after.h, after.l); e != api.OK || canBeLate(after) {
		t.Errorf("%s: Assign = %v, but some show of %v can be late, or the error is %d", name, l, after, e)
	}
}

func checkFewest(t *testing.T, name string, q question, want int) {
	t.Helper()
	if n, e := turn.Fewest(q.h, q.l); n != want || e != api.OK {
		t.Errorf("%s: Fewest = %d, %d, not %d", name, n, e, want)
	}
}

func checkNext(t *testing.T, name string, q question, s api.Slot, want int) {
	t.Helper()
	if n, e := turn.Next(q.h, q.l, s); n != want || e != api.OK {
		t.Errorf("%s: Next of %v = %d, %d, not %d", name, s, n, e, want)
	}
}

func moment(enter, seated, start, empty, ready api.Span) api.Moment {
	return api.Moment{Enter: enter, Seated: seated, Start: start, Empty: empty, Ready: ready}
}

// P6.2 to P6.8: the examples of the chapter.
func TestExamples(t *testing.T) {
	q := example()
	checkTimes(t, "H and L", q,
		moment(span(85, 85), span(88, 90), span(100, 100), span(193, 205), span(203, 220)),
		moment(span(95, 95), span(97, 98), span(110, 110), span(172, 173), span(215, 237)),
		moment(span(215, 220), span(217, 224), span(230, 230), span(322, 329), span(332, 344)),
	)
	checkLate(t, "H and L", q, -1, 0)
	checkLate(t, "the Begin 223", q.with(func(q *question) { q.l[2].Begin = 223 }), 2, 1)
	checkWaiting(t, "H and L", q, 84, span(0, 0))
	checkWaiting(t, "H and L", q, 85, span(30, 40))
	checkWaiting(t, "H and L", q, 95, span(10, 20))
	checkCrowded(t, "H and L", q, -1)
	checkCrowded(t, "Foyer 39", q.with(func(q *question) { q.h.Foyer = 39 }), 85)
	checkAssign(t, "H and L", q)
	checkFewest(t, "H and L", q, 1)
	checkNext(t, "the screen 0", q, newSlot(0, 0, 60, 60, 40, 0), 348)
	checkNext(t, "the screen 2", q, newSlot(2, 0, 60, 60, 10, 0), 230)
	checkNextError(t, "the crowd 160", q, newSlot(2, 0, 60, 60, 160, 0), api.ErrNone)
}

// plain is a house without bounds, with two teams: 10 people pass in a minute, and a screen is cleaned for 20.
func plain(l ...api.Slot) question {
	return question{api.House{Teams: 2, Walk: 3, Early: 10, Foyer: 50, Doors: span(10, 10), Clean: span(20, 20)}, l}
}

// at is a show of 60 minutes in a plain house.
func at(screen, begin, crowd, team int) api.Slot { return newSlot(screen, begin, 60, 60, crowd, team) }

// exact is a moment that is known exactly.
func exact(enter, seated, start, empty, ready int) api.Moment {
	return moment(span(enter, enter), span(seated, seated), span(start, start), span(empty, empty), span(ready, ready))
}

// P6.2: what happens, step by step.
func TestTimes(t *testing.T) {
	for name, x := range map[string]struct {
		q    question
		want []api.Moment
	}{
		"no slots":                     {plain(), nil},
		"nobody comes":                 {plain(at(0, 100, 0, 0)), []api.Moment{exact(90, 90, 100, 160, 180)}},
		"one comes":                    {plain(at(0, 100, 1, 0)), []api.Moment{exact(90, 91, 100, 161, 181)}},
		"the doors are full once":      {plain(at(0, 100, 10, 0)), []api.Moment{exact(90, 91, 100, 161, 181)}},
		"one more comes":               {plain(at(0, 100, 11, 0)), []api.Moment{exact(90, 92, 100, 162, 182)}},
		"seated just in time":          {plain(at(0, 100, 100, 0)), []api.Moment{exact(90, 100, 100, 170, 190)}},
		"seated late":                  {plain(at(0, 100, 101, 0)), []api.Moment{exact(90, 101, 101, 172, 192)}},
		"from the minute 0 on":         {plain(at(0, 9, 10, 0)), []api.Moment{exact(0, 1, 9, 70, 90)}},
		"at the minute 0":              {plain(at(0, 0, 10, 0)), []api.Moment{exact(0, 1, 1, 62, 82)}},
		"nobody at the minute 0":       {plain(at(0, 0, 0, 0)), []api.Moment{exact(0, 0, 0, 60, 80)}},
		"on another screen":            {plain(at(0, 100, 10, 0), at(1, 101, 10, 1)), []api.Moment{exact(90, 91, 100, 161, 181), exact(91, 92, 101, 162, 182)}},
		"on a screen just clean":       {plain(at(0, 100, 10, 0), at(0, 191, 10, 1)), []api.Moment{exact(90, 91, 100, 161, 181), exact(181, 182, 191, 252, 272)}},
		"on a screen not yet clean":    {plain(at(0, 100, 10, 0), at(0, 190, 10, 1)), []api.Moment{exact(90, 91, 100, 161, 181), exact(181, 182, 190, 251, 271)}},
		"late on a screen":             {plain(at(0, 100, 10, 0), at(0, 181, 10, 1)), []api.Moment{exact(90, 91, 100, 161, 181), exact(181, 182, 182, 243, 263)}},
		"late for one of the same":     {plain(at(0, 100, 10, 0), at(0, 101, 0, 0)), []api.Moment{exact(90, 91, 100, 161, 181), exact(181, 181, 181, 241, 261)}},
		"cleaned by one team":          {plain(at(0, 100, 10, 0), at(1, 100, 10, 0)), []api.Moment{exact(90, 91, 100, 161, 181), exact(90, 91, 100, 161, 204)}},
		"cleaned by the other team":    {plain(at(0, 100, 10, 1), at(1, 100, 10, 1)), []api.Moment{exact(90, 91, 100, 161, 181), exact(90, 91, 100, 161, 204)}},
		"a team that just comes":       {plain(at(0, 100, 10, 0), at(1, 123, 10, 0)), []api.Moment{exact(90, 91, 100, 161, 181), exact(113, 114, 123, 184, 204)}},
		"a team that is there":         {plain(at(0, 100, 10, 0), at(1, 124, 10, 0)), []api.Moment{exact(90, 91, 100, 161, 181), exact(114, 115, 124, 185, 205)}},
		"a team that comes late":       {plain(at(0, 100, 10, 0), at(1, 122, 10, 0)), []api.Moment{exact(90, 91, 100, 161, 181), exact(112, 113, 122, 183, 204)}},
		"in the order of the slots":    {plain(newSlot(0, 100, 90, 90, 0, 0), newSlot(1, 100, 10, 10, 0, 0)), []api.Moment{exact(90, 90, 100, 190, 210), exact(90, 90, 100, 110, 233)}},
		"one team behind the other":    {plain(at(0, 100, 0, 0), at(1, 100, 0, 1), at(2, 100, 0, 1)), []api.Moment{exact(90, 90, 100, 160, 180), exact(90, 90, 100, 160, 180), exact(90, 90, 100, 160, 203)}},
		"the slot before on a screen":  {plain(at(0, 100, 0, 0), at(0, 200, 0, 1), at(1, 200, 0, 0), at(0, 220, 0, 0)), []api.Moment{exact(90, 90, 100, 160, 180), exact(190, 190, 200, 260, 280), exact(190, 190, 200, 260, 280), exact(280, 280, 280, 340, 360)}},
		"late on and on":               {plain(at(3, 0, 5, 0), at(3, 1, 15, 0), at(3, 2, 25, 0)), []api.Moment{exact(0, 1, 1, 62, 82), exact(82, 84, 84, 146, 166), exact(166, 169, 169, 232, 252)}},
		"a walk of no minutes":         {plain(at(0, 100, 10, 0), at(1, 100, 10, 0)).with(func(q *question) { q.h.Walk = 0 }), []api.Moment{exact(90, 91, 100, 161, 181), exact(90, 91, 100, 161, 201)}},
		"a crowd that comes at Begin":  {plain(at(0, 100, 10, 0)).with(func(q *question) { q.h.Early = 0 }), []api.Moment{exact(100, 101, 101, 162, 182)}},
		"the bounds of a run":          {plain(newSlot(0, 100, 1, 400, 0, 0)), []api.Moment{moment(span(90, 90), span(90, 90), span(100, 100), span(101, 500), span(121, 520))}},
		"the bounds of doors":          {plain(at(0, 100, 100, 0)).with(func(q *question) { q.h.Doors = span(9, 100) }), []api.Moment{moment(span(90, 90), span(91, 102), span(100, 102), span(161, 174), span(181, 194))}},
		"the bounds of cleaning":       {plain(at(0, 100, 0, 0), at(0, 101, 0, 1)).with(func(q *question) { q.h.Clean = span(1, 120) }), []api.Moment{moment(span(90, 90), span(90, 90), span(100, 100), span(160, 160), span(161, 280)), moment(span(161, 280), span(161, 280), span(161, 280), span(221, 340), span(222, 460))}},
		"the last minute of all there": {question{api.House{Teams: 1, Doors: span(1, 1), Clean: span(120, 120)}, []api.Slot{newSlot(5, 2000, 400, 400, 500, 0)}}, []api.Moment{exact(2000, 2500, 2500, 3400, 3520)}},
	} {
		checkTimes(t, name, x.q, x.want...)
	}
}

// P6.3: the first slot whose show can be late is named, with the most minutes.
func TestLate(t *testing.T) {
	for name, x := range map[string]struct {
		q        question
		slot, by int
	}{
		"no slots":                  {plain(), -1, 0},
		"just in time":              {plain(at(0, 100, 100, 0)), -1, 0},
		"late by 1":                 {plain(at(0, 100, 101, 0)), 0, 1},
		"late by 5":                 {plain(at(0, 100, 150, 0)), 0, 5},
		"only if the doors are bad": {plain(at(0, 100, 100, 0)).with(func(q *question) { q.h.Doors = span(9, 100) }), 0, 2},
		"only if cleaning is long":  {plain(at(0, 100, 0, 0), at(0, 300, 0, 1)).with(func(q *question) { q.h.Clean = span(1, 120) }), -1, 0},
		"if cleaning is too long":   {plain(at(0, 100, 0, 0), at(0, 279, 0, 1)).with(func(q *question) { q.h.Clean = span(1, 120) }), 1, 1},
		"if a show is long":         {plain(newSlot(0, 100, 10, 200, 0, 0), at(0, 300, 0, 1)), 1, 20},
		"if a team is late":         {plain(at(0, 100, 0, 0), at(1, 100, 0, 0), at(1, 200, 0, 1)), 2, 3},
		"not with another team":     {plain(at(0, 100, 0, 0), at(1, 100, 0, 1), at(1, 200, 0, 1)), -1, 0},
		"the first one of two":      {plain(at(0, 100, 110, 0), at(1, 100, 150, 1)), 0, 1},
		"the second one of two":     {plain(at(0, 100, 100, 0), at(1, 100, 150, 1)), 1, 5},
		"the last one only":         {plain(at(0, 100, 0, 0), at(1, 100, 0, 1), at(0, 170, 0, 0)), 2, 10},
		"one behind another one":    {plain(at(0, 100, 0, 0), at(0, 101, 0, 1), at(0, 102, 0, 1)), 1, 79},
		"at the minute 0":           {plain(at(0, 0, 1, 0)), 0, 1},
		"at a minute below Early":   {plain(at(0, 9, 91, 0)), 0, 1},
		"in time below Early":       {plain(at(0, 9, 90, 0)), -1, 0},
		"behind all limits":         {full().with(func(q *question) { q.h.Early = 0 }), 0, 500},
		"with all limits":           {full(), 0, 380},
	} {
		checkLate(t, name, x.q, x.slot, x.by)
	}
}

// P6.4: all who have come and not entered wait.
func TestWaiting(t *testing.T) {
	wide := func(q *question) { q.h.Doors = span(5, 20) }
	foyer := plain(at(0, 100, 45, 0)).with(wide)
	for minute, want := range map[int]api.Span{
		0: span(0, 0), 89: span(0, 0), 90: span(25, 40), 91: span(5, 35), 92: span(0, 30), 93: span(0, 25),
		97: span(0, 5), 98: span(0, 0), 99: span(0, 0), 9999: span(0, 0),
	} {
		checkWaiting(t, "one crowd", foyer, minute, want)
	}
	dirty := plain(at(0, 100, 0, 0), at(0, 130, 45, 1), at(1, 150, 30, 1)).with(wide)
	for minute, want := range map[int]api.Span{
		119: span(0, 0), 120: span(45, 45), 139: span(45, 45), 140: span(55, 70), 141: span(45, 65), 145: span(45, 45),
		146: span(45, 45), 179: span(45, 45), 180: span(25, 40), 181: span(5, 35), 182: span(0, 30), 188: span(0, 0), 189: span(0, 0),
	} {
		checkWaiting(t, "a dirty screen", dirty, minute, want)
	}
	late := plain(at(0, 100, 0, 0), at(0, 130, 45, 1)).with(func(q *question) { q.h.Clean = span(10, 20) })
	for minute, want := range map[int]api.Span{
		169: span(45, 45), 170: span(35, 45), 174: span(0, 45), 179: span(0, 45), 180: span(0, 35), 184: span(0, 0),
	} {
		checkWaiting(t, "a screen that can be dirty", late, minute, want)
	}
	first := plain(at(0, 5, 45, 0))
	checkWaiting(t, "at the minute 0", first, 0, span(35, 35))
	checkWaiting(t, "at the minute 0, a minute later", first, 1, span(25, 25))
	checkWaiting(t, "no slots", plain(), 0, span(0, 0))
	checkWaiting(t, "nobody", plain(at(0, 100, 0, 0)), 90, span(0, 0))
	packed := full().with(func(q *question) {
		for n := range q.l {
			q.l[n] = newSlot(0, n, 400, 400, 500, 0)
		}
	})
	checkWaiting(t, "all crowds for one screen", packed, 0, span(11*500+400, 11*500+499))
	checkWaiting(t, "all crowds for one screen", packed, 9999, span(0, 5*500))
}

// P6.5: the foyer is too full from the first minute on at which more can wait than it holds.
func TestCrowded(t *testing.T) {
	holds := func(n int) func(q *question) { return func(q *question) { q.h.Foyer = n } }
	one := plain(at(0, 100, 45, 0))
	checkCrowded(t, "no slots", plain().with(holds(0)), -1)
	checkCrowded(t, "nobody", plain(at(0, 100, 0, 0)).with(holds(0)), -1)
	checkCrowded(t, "all enter at once", plain(at(0, 100, 10, 0)).with(holds(0)), -1)
	checkCrowded(t, "one cannot enter at once", plain(at(0, 100, 11, 0)).with(holds(0)), 90)
	checkCrowded(t, "just as many as it holds", one.with(holds(35)), -1)
	checkCrowded(t, "one more than it holds", one.with(holds(34)), 90)
	checkCrowded(t, "only if the doors are bad", one.with(func(q *question) { q.h.Doors, q.h.Foyer = span(1, 45), 43 }), 90)
	checkCrowded(t, "at the minute 0", plain(at(0, 3, 45, 0)).with(holds(34)), 0)
	two := plain(at(0, 100, 45, 0), at(1, 101, 45, 1))
	checkCrowded(t, "two crowds one after the other", two.with(holds(60)), -1)
	checkCrowded(t, "a crowd that comes behind another one", two.with(holds(59)), 91)
	same := plain(at(0, 100, 45, 0), at(1, 100, 45, 1))
	checkCrowded(t, "two crowds at once", same.with(holds(70)), -1)
	checkCrowded(t, "two crowds at once, and one more", same.with(holds(69)), 90)
	dirty := plain(at(0, 100, 0, 0), at(0, 130, 45, 1), at(1, 150, 30, 1))
	checkCrowded(t, "a crowd before a dirty screen", dirty.with(holds(44)), 120)
	checkCrowded(t, "a crowd behind one before a dirty screen", dirty.with(holds(64)), 140)
	checkCrowded(t, "before a dirty screen, as it holds", dirty.with(holds(65)), -1)
	early := plain(at(0, 100, 0, 0), at(0, 160, 30, 1)).with(func(q *question) { q.h.Clean = span(10, 20) })
	checkCrowded(t, "before a screen that is dirty at the latest", early.with(holds(29)), 150)
	last := plain(at(0, 2000, 11, 0)).with(func(q *question) { q.h.Early, q.h.Foyer = 0, 0 })
	checkCrowded(t, "at the last minute", last, 2000)
	checkCrowded(t, "with all limits", full(), 1880)
	checkCrowded(t, "with all limits at the latest", full().with(func(q *question) {
		for n := range q.l {
			q.l[n].Screen, q.l[n].Begin = 0, 1988+n
		}
		q.l[0].Begin = 1900
	}), 1878)
}

// P6.6 and P6.7: teams are found if there are any, and no more than are needed.
func TestTeams(t *testing.T) {
	// Of n shows that end at once each screen is needed again just in time for a crowd of nobody.
	rush := func(n, teams int) question {
		q := plain().with(func(q *question) { q.h.Teams = teams })
		for screen := range n {
			q.l = append(q.l, at(screen, 100, 0, 0))
		}
		for screen := range n {
			q.l = append(q.l, at(screen, 180, 0, 0))
		}
		return q
	}
	for n := 1; n <= 4; n++ {
		for teams := 1; teams <= 4; teams++ {
			checkFewest(t, "a rush", rush(n, teams), n)
			if teams >= n {
				checkAssign(t, "a rush", rush(n, teams))
			} else if l, e := turn.Assign(rush(n, teams).h, rush(n, teams).l); len(l) != 0 || e != api.ErrNone {
				t.Errorf("a rush of %d with %d teams: Assign = %v, %d", n, teams, l, e)
			}
		}
	}
	checkNoTeams(t, "a rush of 5", rush(5, 4), api.ErrNone)
	checkNoTeams(t, "a crowd too great", plain(at(0, 100, 101, 0)), api.ErrNone)
	checkNoTeams(t, "a last crowd too great", plain(at(0, 100, 100, 0), at(1, 300, 101, 0)), api.ErrNone)
	checkNoTeams(t, "a screen not clean in time", plain(at(0, 100, 0, 0), at(0, 179, 0, 1)), api.ErrNone)
	checkNoTeams(t, "all limits", full(), api.ErrNone)
	checkAssign(t, "no slots", plain())
	checkFewest(t, "no slots", plain(), 1)
	checkAssign(t, "the last dirty screens do not matter", plain(at(0, 100, 0, 0), at(1, 100, 0, 0), at(2, 100, 0, 0)))
	checkFewest(t, "the last dirty screens do not matter", plain(at(0, 100, 0, 0), at(1, 100, 0, 0), at(2, 100, 0, 0)), 1)
	walk := plain(at(0, 100, 0, 0), at(1, 100, 0, 0), at(0, 180, 0, 0), at(1, 203, 0, 0))
	checkFewest(t, "a walk in time", walk, 1)
	checkFewest(t, "a walk too long", walk.with(func(q *question) { q.h.Walk = 4 }), 2)
	checkFewest(t, "a cleaning too long at the most", walk.with(func(q *question) { q.h.Clean, q.l[2].Begin = span(20, 21), 181 }), 2)
	checkFewest(t, "one team at last", plain(at(0, 100, 0, 1), at(1, 100, 0, 1), at(0, 180, 0, 1), at(1, 203, 0, 1)), 1)
}

// P6.6: a team that is free first is not always the right one, as screens are cleaned in the order of the slots.
func TestHardTeams(t *testing.T) {
	// The first show is long, so the team that cleans behind it cleans nothing else before.
	long := plain(newSlot(0, 100, 300, 300, 0, 0), newSlot(1, 101, 60, 60, 0, 0), newSlot(2, 122, 60, 60, 0, 0), at(1, 181, 0, 0), at(2, 204, 0, 0), at(0, 420, 0, 0))
	checkAssign(t, "a long show", long)
	checkFewest(t, "a long show", long, 2)
	checkFewest(t, "a long show, too little time", long.with(func(q *question) { q.l[4].Begin = 203 }), 3)
	two := long.with(func(q *question) { q.l[4].Begin = 203 })
	if l, e := turn.Assign(two.h, two.l); len(l) != 0 || e != api.ErrNone {
		t.Errorf("Assign of 2 teams = %v, %d", l, e)
	}
	// Only if the team that is free later cleans behind the longest show, the other one is free for the show that ends before.
	later := plain(newSlot(0, 100, 60, 60, 0, 0), newSlot(1, 100, 70, 70, 0, 0), newSlot(2, 100, 200, 200, 0, 0), newSlot(3, 100, 85, 85, 0, 0), at(1, 190, 0, 0), at(3, 205, 0, 0))
	checkAssign(t, "a team that is free later", later)
	checkFewest(t, "a team that is free later", later, 2)
	// With whichever team the last show is late, which only all teams tell.
	hopeless := question{h: api.House{Teams: 4, Early: 120, Doors: span(100, 100), Clean: span(1, 1)}}
	for n := range api.MaxTurns {
		hopeless.l = append(hopeless.l, newSlot(n%6, 150*n, 1, n+1, 0, 0))
	}
	checkAssign(t, "eleven easy shows", hopeless)
	checkFewest(t, "eleven easy shows", hopeless, 1)
	hopeless.h.Early, hopeless.l[11].Crowd = 0, 1
	checkNoTeams(t, "eleven easy shows and one too late", hopeless, api.ErrNone)
}

// P6.8: Next is behind all others, and in time.
func TestNext(t *testing.T) {
	none := plain()
	checkNext(t, "the first slot", none, at(0, 77, 0, 1), 0)
	checkNext(t, "a crowd that comes at 0", none, at(0, 77, 95, 0), 10)
	checkNext(t, "a crowd that just comes in", none, at(0, 77, 100, 0), 10)
	checkNextError(t, "a crowd that does not come in", none, at(0, 0, 101, 0), api.ErrNone)
	checkNext(t, "a small crowd", none, at(0, 77, 1, 0), 1)
	one := plain(at(0, 100, 10, 0))
	checkNext(t, "another screen", one, at(1, 0, 10, 0), 100)
	checkNext(t, "another screen at the last minute", one, at(5, 0, 100, 0), 100)
	checkNext(t, "the same screen", one, at(0, 0, 0, 0), 181)
	checkNext(t, "the same screen with a crowd", one, at(0, 0, 31, 1), 185)
	checkNext(t, "the same screen with a late show", plain(at(0, 100, 200, 0)), at(0, 0, 31, 1), 214)
	checkNext(t, "a late show elsewhere", plain(at(0, 100, 200, 0)), at(1, 0, 31, 1), 100)
	checkNext(t, "at the greatest bounds", one.with(func(q *question) { q.h.Clean, q.h.Doors, q.l[0].Runs = span(1, 25), span(5, 10), span(1, 70) }), at(0, 0, 10, 1), 100+70+2+25+2)
	checkNext(t, "behind the last slot", plain(at(0, 100, 0, 0), at(1, 500, 0, 1)), at(0, 0, 0, 0), 500)
	checkNext(t, "behind the last slot at once", plain(at(0, 10, 0, 0), at(1, 10, 0, 1)), at(2, 0, 50, 0), 10)
	short := plain(newSlot(0, 1997, 1, 1, 0, 0)).with(func(q *question) { q.h.Clean = span(1, 1) })
	checkNext(t, "just clean", short, at(0, 0, 0, 0), 1999)
	checkNext(t, "at the last minute", short, at(0, 0, 10, 0), 2000)
	checkNextError(t, "after the last minute", short, at(0, 0, 11, 0), api.ErrNone)
	last := plain(at(0, 2000, 0, 0))
	checkNext(t, "another screen at the last Begin", last, at(1, 0, 0, 0), 2000)
	checkNextError(t, "the same screen at the last Begin", last, at(0, 0, 0, 0), api.ErrNone)
	checkNext(t, "whichever team", plain(at(0, 100, 0, 0), at(1, 100, 0, 0)), at(2, math.MaxInt, 0, 0), 100)
}
