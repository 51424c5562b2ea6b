package turn_test

import (
	"math"
	"slices"

	"bijou/api"
)

type fault struct {
	change func(q *question)
	e      api.Errno
}

type adder func(name string, e api.Errno, change func(q *question))

// faulty are changes to the house and the slots of the examples, each with the first error that they then have.
func faulty() map[string]fault {
	all := map[string]fault{}
	add := func(name string, e api.Errno, change func(q *question)) {
		if _, ok := all[name]; ok {
			panic("two faults have the name " + name)
		}
		all[name] = fault{change, e}
	}
	addHouses(add)
	addSlots(add)
	addBegins(add)
	add("a wrong house and a wrong slot", api.ErrHouse, func(q *question) { q.h.Foyer, q.l[0].Screen = -1, -1 })
	add("a wrong house and wrong Begins", api.ErrHouse, func(q *question) { q.h.Doors.Low, q.l[1].Begin = 0, 99 })
	add("a wrong house and no slots", api.ErrHouse, func(q *question) { q.h.Clean.High, q.l = 121, nil })
	return all
}

// outside are numbers that are not from a first to a last one.
func outside(first, last int) map[string]int {
	return map[string]int{
		"just below": first - 1, "just above": last + 1, "the least": math.MinInt, "endless": math.MaxInt,
		"far below": -1 << 32, "far above": 1 << 32,
	}
}

func addHouses(add adder) {
	addNumber := func(name string, first, last int, field func(h *api.House) *int) {
		for how, n := range outside(first, last) {
			add(name+" "+how, api.ErrHouse, func(q *question) { *field(&q.h) = n })
		}
	}
	addNumber("Teams", 1, 4, func(h *api.House) *int { return &h.Teams })
	addNumber("Walk", 0, 60, func(h *api.House) *int { return &h.Walk })
	addNumber("Early", 0, 120, func(h *api.House) *int { return &h.Early })
	addNumber("Foyer", 0, 5000, func(h *api.House) *int { return &h.Foyer })
	addNumber("Doors.Low", 1, 100, func(h *api.House) *int { return &h.Doors.Low })
	addNumber("Doors.High", 1, 100, func(h *api.House) *int { return &h.Doors.High })
	addNumber("Clean.Low", 1, 120, func(h *api.House) *int { return &h.Clean.Low })
	addNumber("Clean.High", 1, 120, func(h *api.House) *int { return &h.Clean.High })
	add("Doors.Low above High", api.ErrHouse, func(q *question) { q.h.Doors = span(11, 10) })
	add("Clean.Low above High", api.ErrHouse, func(q *question) { q.h.Clean = span(11, 10) })
	add("Doors from 0 to 0", api.ErrHouse, func(q *question) { q.h.Doors = span(0, 0) })
	add("Clean from 0 to 0", api.ErrHouse, func(q *question) { q.h.Clean = span(0, 0) })
	add("Doors from 101 to 101", api.ErrHouse, func(q *question) { q.h.Doors = span(101, 101) })
	add("Clean from 121 to 121", api.ErrHouse, func(q *question) { q.h.Clean = span(121, 121) })
	add("nothing at all", api.ErrHouse, func(q *question) { *q = question{} })
}

func addSlots(add adder) {
	addNumber := func(name string, first, last int, field func(s *api.Slot) *int) {
		for how, n := range outside(first, last) {
			for slot := range exampleL() {
				add(name+" "+how+" of "+[]string{"the first", "the second", "the third"}[slot], api.ErrSlot, func(q *question) { *field(&q.l[slot]) = n })
			}
		}
	}
	addNumber("Screen", 0, 5, func(s *api.Slot) *int { return &s.Screen })
	addNumber("Begin", 0, 2000, func(s *api.Slot) *int { return &s.Begin })
	addNumber("Runs.Low", 1, 400, func(s *api.Slot) *int { return &s.Runs.Low })
	addNumber("Runs.High", 1, 400, func(s *api.Slot) *int { return &s.Runs.High })
	addNumber("Crowd", 0, 500, func(s *api.Slot) *int { return &s.Crowd })
	addNumber("Team", 0, 0, func(s *api.Slot) *int { return &s.Team })
	add("Runs.Low above High", api.ErrSlot, func(q *question) { q.l[1].Runs = span(61, 60) })
	add("Runs from 0 to 0", api.ErrSlot, func(q *question) { q.l[1].Runs = span(0, 0) })
	add("Runs from 401 to 401", api.ErrSlot, func(q *question) { q.l[1].Runs = span(401, 401) })
	add("a Team 3 of 3", api.ErrSlot, func(q *question) { q.h.Teams, q.l[2].Team = 3, 3 })
	add("a Team 4 of 4", api.ErrSlot, func(q *question) { q.h.Teams, q.l[2].Team = 4, 4 })
	add("only an empty slot", api.ErrSlot, func(q *question) { q.l = make([]api.Slot, 1) })
}

func addBegins(add adder) {
	add("the second Begin before the first one", api.ErrSlot, func(q *question) { q.l[1].Begin = 99 })
	add("the third Begin before the second one", api.ErrSlot, func(q *question) { q.l[2].Begin = 109 })
	add("the third Begin before the first one too", api.ErrSlot, func(q *question) { q.l[2].Begin = 99 })
	add("the same Begin on the same screen", api.ErrSlot, func(q *question) { q.l[1].Screen, q.l[1].Begin = 0, 100 })
	add("the same Begin around another one", api.ErrSlot, func(q *question) { q.l[1].Begin, q.l[2].Begin = 100, 100 })
	add("the same slot twice", api.ErrSlot, func(q *question) { q.l[1] = q.l[0] })
	add("13 slots", api.ErrSlot, func(q *question) {
		for n := range 10 {
			q.l = append(q.l, newSlot(0, 231+n, 1, 1, 0, 0))
		}
	})
	add("100000 slots", api.ErrSlot, func(q *question) { q.l = slices.Repeat(q.l[2:], 100000) })
}

// sound are houses and slots without an error, most of them at the limits.
func sound() []question {
	one := func(change func(q *question)) question { return example().with(change) }
	return []question{
		example(), full(),
		one(func(q *question) { q.l = nil }),
		one(func(q *question) { q.l = []api.Slot{} }),
		one(func(q *question) { q.l = q.l[:1] }),
		{api.House{Teams: 1, Doors: span(1, 1), Clean: span(1, 1)}, []api.Slot{newSlot(0, 0, 1, 1, 0, 0), newSlot(5, 0, 1, 1, 0, 0), newSlot(0, 1, 1, 1, 0, 0)}},
		{api.House{Teams: 4, Walk: 60, Early: 120, Foyer: 5000, Doors: span(100, 100), Clean: span(120, 120)}, []api.Slot{newSlot(5, 2000, 400, 400, 500, 3)}},
		{api.House{Teams: 1, Walk: 60, Early: 120, Doors: span(1, 1), Clean: span(120, 120)}, full().with(func(q *question) {
			for n := range q.l {
				q.l[n] = newSlot(0, n, 400, 400, 500, 0)
			}
		}).l},
		one(func(q *question) { q.l[1].Begin = 100 }),
		one(func(q *question) { q.l[2].Begin = 110 }),
		one(func(q *question) { q.l[1].Screen, q.l[1].Begin = 0, 101 }),
		one(func(q *question) { q.h.Teams, q.l[1].Team, q.l[2].Team = 2, 1, 1 }),
	}
}
