package turn_test

import (
	"math/rand"
	"slices"

	"bijou/api"
	"bijou/turn"
)

func span(low, high int) api.Span { return api.Span{Low: low, High: high} }

func newSlot(screen, begin, low, high, crowd, team int) api.Slot {
	return api.Slot{Screen: screen, Begin: begin, Runs: span(low, high), Crowd: crowd, Team: team}
}

// exampleH and exampleL are the house and the slots of the chapter's examples.
func exampleH() api.House {
	return api.House{Teams: 1, Walk: 2, Early: 15, Foyer: 40, Doors: span(10, 20), Clean: span(10, 15)}
}

func exampleL() []api.Slot {
	return []api.Slot{newSlot(0, 100, 90, 100, 50, 0), newSlot(1, 110, 60, 60, 30, 0), newSlot(0, 230, 90, 95, 40, 0)}
}

// question is a house with slots.
type question struct {
	h api.House
	l []api.Slot
}

func example() question { return question{exampleH(), exampleL()} }

// full is a house and slots that are at all limits.
func full() question {
	q := question{h: api.House{
		Teams: api.MaxTeams, Walk: api.MaxWalk, Early: api.MaxEarly, Foyer: api.MaxFoyer,
		Doors: span(1, api.MaxDoors), Clean: span(1, api.MaxClean),
	}}
	for n := range api.MaxTurns {
		begin := api.MaxBegin - 1 + n/api.MaxHalls
		q.l = append(q.l, newSlot(n%api.MaxHalls, begin, 1, api.MaxLong, api.MaxPeople, n%api.MaxTeams))
	}
	return q
}

// with returns a copy of a question in which something was changed.
func (q question) with(change func(q *question)) question {
	q = q.clone()
	change(&q)
	return q
}

func (q question) clone() question { return question{q.h, slices.Clone(q.l)} }

// cleanedBy returns a question whose slots have some teams.
func (q question) cleanedBy(teams []int) question {
	return q.with(func(q *question) {
		for n := range q.l {
			q.l[n].Team = teams[n]
		}
	})
}

// timesOf returns the times of a question that is known to be sound.
func timesOf(q question) []api.Moment {
	l, _ := turn.Times(q.h, q.l)
	return l
}

func lateOf(q question) (slot, by int) {
	slot, by, _ = turn.Late(q.h, q.l)
	return slot, by
}

// canBeLate tells whether some show of a question can be late.
func canBeLate(q question) bool {
	slot, _ := lateOf(q)
	return slot != -1
}

// The tests know what happens from living through it minute by minute.

// The phases of a slot follow each other.
const (
	away = iota
	waiting
	entering
	seated
	running
	leaving
	empty
	cleaning
	clean
)

// truth is how fast people really pass the doors, and how many minutes each show really runs and each cleaning takes.
type truth struct {
	rate         int
	runs, cleans []int
}

func fastest(q question) truth {
	return truthOf(q, q.h.Doors.High, func(s api.Span) int { return s.Low })
}

func slowest(q question) truth {
	return truthOf(q, q.h.Doors.Low, func(s api.Span) int { return s.High })
}

// anyTruth is one that is within the bounds.
func anyTruth(rnd *rand.Rand, q question) truth {
	within := func(s api.Span) int { return s.Low + rnd.Intn(s.High-s.Low+1) }
	return truthOf(q, within(q.h.Doors), within)
}

func truthOf(q question, rate int, choose func(s api.Span) int) truth {
	v := truth{rate: rate}
	for _, s := range q.l {
		v.runs = append(v.runs, choose(s.Runs))
		v.cleans = append(v.cleans, choose(q.h.Clean))
	}
	return v
}

// life is a slot that is lived through: its phase, how many minutes or people are left in it, and when each phase began.
type life struct {
	phase, left int
	began       [clean + 1]int
}

// night is all slots that are lived through, and how many people wait at each minute.
type night struct {
	question
	truth
	lives []life
	foyer []int
}

func live(q question, v truth) night {
	w := night{question: q, truth: v, lives: make([]life, len(q.l))}
	goesOn := func(x life) bool { return x.phase != clean }
	for minute := 0; slices.ContainsFunc(w.lives, goesOn); minute++ {
		for n := range w.lives {
			for w.canGoOn(n, minute) {
				w.goOn(n, minute)
			}
		}
		w.pass()
		w.foyer = append(w.foyer, w.people())
	}
	return w
}

// canGoOn tells whether the phase of a slot is over at a minute.
func (w *night) canGoOn(n, minute int) bool {
	x, s := w.lives[n], w.l[n]
	switch x.phase {
	case away:
		return minute+w.h.Early >= s.Begin
	case waiting:
		return w.isClean(n, func(other api.Slot) bool { return other.Screen == s.Screen }, minute, 0)
	case seated:
		return minute >= s.Begin
	case empty:
		return w.isClean(n, func(other api.Slot) bool { return other.Team == s.Team }, minute, w.h.Walk)
	case clean:
		return false
	}
	return x.left <= 0
}

// isClean tells whether all slots before one that a function chooses are clean since some minutes.
func (w *night) isClean(n int, chosen func(other api.Slot) bool, minute, since int) bool {
	for i, other := range w.l[:n] {
		x := w.lives[i]
		if chosen(other) && (x.phase != clean || x.began[clean]+since > minute) {
			return false
		}
	}
	return true
}

func (w *night) goOn(n, minute int) {
	x := &w.lives[n]
	x.phase++
	x.began[x.phase] = minute
	switch x.phase {
	case entering, leaving:
		x.left = w.l[n].Crowd
	case running:
		x.left = w.runs[n]
	case cleaning:
		x.left = w.cleans[n]
	}
}

// pass lets a minute pass.
func (w *night) pass() {
	for n := range w.lives {
		switch x := &w.lives[n]; x.phase {
		case entering, leaving:
			x.left -= w.rate
		case running, cleaning:
			x.left--
		}
	}
}

// people returns how many people are in the foyer.
func (w *night) people() int {
	sum := 0
	for n, x := range w.lives {
		switch x.phase {
		case waiting:
			sum += w.l[n].Crowd
		case entering:
			sum += max(0, x.left)
		}
	}
	return sum
}

// waitingAt returns how many people wait at a minute, also at one after all slots.
func (w *night) waitingAt(minute int) int {
	if minute >= len(w.foyer) {
		return 0
	}
	return w.foyer[minute]
}

// minutes returns when a crowd enters and is seated, its show starts, and its screen is empty and clean.
func (x life) minutes() [5]int {
	return [5]int{x.began[entering], x.began[seated], x.began[running], x.began[empty], x.began[clean]}
}

// spans returns the spans of a moment, in the order of minutes.
func spans(m api.Moment) [5]api.Span {
	return [5]api.Span{m.Enter, m.Seated, m.Start, m.Empty, m.Ready}
}

// eachTeams calls a function with all teams below a number for so many slots, until it returns true.
func eachTeams(slots, teams int, do func(l []int) bool) bool {
	l := make([]int, slots)
	for {
		if do(l) {
			return true
		}
		n := 0
		for n < slots && l[n] == teams-1 {
			l[n] = 0
			n++
		}
		if n == slots {
			return false
		}
		l[n]++
	}
}

// canBeDone tells whether some teams below a number let no show be late, by trying all of them.
func canBeDone(q question, teams int) bool {
	q = q.with(func(q *question) { q.h.Teams = teams })
	return eachTeams(len(q.l), teams, func(l []int) bool { return !canBeLate(q.cleanedBy(l)) })
}

// Random houses have few screens and little time, so that shows are late now and then.

func randomSpan(rnd *rand.Rand, most int) api.Span {
	low := 1 + rnd.Intn(most)
	return span(low, low+rnd.Intn(most-low+1))
}

func randomHouse(rnd *rand.Rand) api.House {
	return api.House{
		Teams: 1 + rnd.Intn(api.MaxTeams), Walk: rnd.Intn(12), Early: rnd.Intn(40), Foyer: rnd.Intn(120),
		Doors: randomSpan(rnd, 20), Clean: randomSpan(rnd, 25),
	}
}

func randomSlot(rnd *rand.Rand, h api.House) api.Slot {
	return api.Slot{Screen: rnd.Intn(4), Runs: randomSpan(rnd, 40), Crowd: rnd.Intn(80), Team: rnd.Intn(h.Teams)}
}

// randomQuestion has at most so many slots, often two at the same minute.
func randomQuestion(rnd *rand.Rand, most int) question {
	q := question{h: randomHouse(rnd)}
	begin := rnd.Intn(60)
	gap := 1 + rnd.Intn(60)
	for range rnd.Intn(most + 1) {
		s := randomSlot(rnd, q.h)
		s.Begin = begin
		if slices.ContainsFunc(q.l, func(other api.Slot) bool { return other.Begin == begin && other.Screen == s.Screen }) {
			s.Begin++
		}
		q.l = append(q.l, s)
		begin = s.Begin + rnd.Intn(gap)
	}
	return q
}

// eachQuestion calls a function with random questions of at most so many slots.
func eachQuestion(seed int64, times, most int, do func(rnd *rand.Rand, q question)) {
	rnd := rand.New(rand.NewSource(seed))
	for range times {
		do(rnd, randomQuestion(rnd, most))
	}
}
