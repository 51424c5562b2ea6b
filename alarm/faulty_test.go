package alarm_test

import (
	"slices"
	"strconv"

	"bijou/api"
)

type adder func(name string, change func(h *api.Building))

// faulty are changes to the house H of the examples, with each of which it is not valid.
func faulty() map[string]func(h *api.Building) {
	all := map[string]func(h *api.Building){}
	add := func(name string, change func(h *api.Building)) {
		if _, ok := all[name]; ok {
			panic("two faults have the name " + name)
		}
		all[name] = change
	}
	addRooms(add)
	addPassages(add)
	return all
}

func addRooms(add adder) {
	for how, n := range outside(0, 99) {
		for room := range exampleH().People {
			add("people "+how+" in the room "+strconv.Itoa(room), func(h *api.Building) { h.People[room] = n })
		}
	}
	add("no rooms", func(h *api.Building) { h.People = nil })
	add("nothing at all", func(h *api.Building) { *h = api.Building{} })
	add("one room too few", func(h *api.Building) { h.People = h.People[:1] })
	for _, n := range []int{7, 8, 100000} {
		add(strconv.Itoa(n)+" rooms", func(h *api.Building) { h.People = make([]int, n) })
	}
}

func addPassages(add adder) {
	addNumber := func(name string, first, last int, field func(p *api.Passage) *int) {
		for how, n := range outside(first, last) {
			for number := range exampleH().Passages {
				add(name+" "+how+" of the passage "+strconv.Itoa(number), func(h *api.Building) { *field(&h.Passages[number]) = n })
			}
		}
	}
	addNumber("From", 0, 1, func(p *api.Passage) *int { return &p.From })
	addNumber("To", -1, 1, func(p *api.Passage) *int { return &p.To })
	addNumber("Width", 0, 20, func(p *api.Passage) *int { return &p.Width })
	addNumber("Walk", 1, 9, func(p *api.Passage) *int { return &p.Walk })
	for number := range exampleH().Passages {
		name := "the passage " + strconv.Itoa(number)
		add(name+" from a room to itself", func(h *api.Building) { h.Passages[number].To = h.Passages[number].From })
		add(name+" from outside", func(h *api.Building) { h.Passages[number].From, h.Passages[number].To = api.Outside, 0 })
		add(name+" from outside to outside", func(h *api.Building) { h.Passages[number].From, h.Passages[number].To = api.Outside, api.Outside })
		add(name+" from one behind the last room", func(h *api.Building) { h.Passages[number].From, h.Passages[number].To = 2, 0 })
		add(name+" without numbers", func(h *api.Building) { h.Passages[number] = api.Passage{} })
	}
	for _, n := range []int{13, 14, 100000} {
		add(strconv.Itoa(n)+" passages", func(h *api.Building) { h.Passages = slices.Repeat(h.Passages[:1], n) })
	}
}

// faultyMoves are lists of moves that are no plan of the house H of the examples up to 3, each because of one thing.
func faultyMoves() map[string][]api.Move {
	all := map[string][]api.Move{
		"one more than the Width":            {move(0, 0, 3)},
		"far more than the Width":            {move(0, 2, 1<<62)},
		"two moves with more than the Width": {move(0, 0, 2), move(0, 0, 1)},
		"two moves far apart in the list":    {move(1, 2, 2), move(0, 0, 1), move(0, 1, 1), move(1, 2, 2)},
		"two moves with more than an int":    {move(0, 0, 1), move(0, 0, 1<<63-1)},
		"many moves with more than an int":   {move(0, 2, 1<<62), move(0, 2, 1<<62), move(0, 2, 1<<62), move(0, 2, 1<<62), move(0, 2, 1)},
		"nobody":                             {move(0, 0, 0)},
		"nobody among others":                {move(0, 0, 1), move(0, 1, 0)},
		"fewer than nobody":                  {move(0, 0, -1)},
		"one more and one less":              {move(0, 0, 3), move(0, 0, -1)},
		"one less and one more":              {move(0, 0, -1), move(0, 0, 3)},
		"too late for a walk of 1":           {move(3, 2, 1)},
		"too late for a walk of 2":           {move(2, 1, 1)},
		"too late to come into a room":       {move(3, 0, 1)},
		"more than were in the room":         {move(0, 2, 3), move(1, 2, 2)},
		"more than were there, in two ways":  {move(0, 0, 2), move(0, 1, 1), move(1, 0, 2), move(1, 1, 1)},
		"more than were there and came":      {move(0, 2, 3), move(0, 0, 2), move(1, 2, 3), move(2, 2, 1)},
		"more than were there before others": {move(0, 2, 3), move(0, 3, 1), move(1, 2, 1), move(1, 0, 1)},
		"just as many in the end, too early": {move(0, 2, 3), move(1, 2, 3), move(1, 0, 2)},
		"more than came into the other room": {move(0, 0, 2), move(0, 1, 1), move(1, 0, 2), move(1, 1, 1), move(2, 3, 1)},
		"who leaves before coming round":     {move(0, 0, 2), move(0, 1, 1), move(1, 0, 2), move(1, 1, 1), move(1, 3, 1)},
	}
	add := func(name string, first, last int, change func(m *api.Move, n int)) {
		for how, n := range outside(first, last) {
			for number := range exampleL() {
				l := exampleL()
				change(&l[number], n)
				all[name+" "+how+" of the move "+strconv.Itoa(number)] = l
			}
		}
	}
	add("Minute", 0, 3, func(m *api.Move, n int) { m.Minute = n })
	add("Passage", 0, 3, func(m *api.Move, n int) { m.Passage = n })
	add("People", 1, 3, func(m *api.Move, n int) { m.People = n })
	return all
}
