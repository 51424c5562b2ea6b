package alarm_test

import (
	"math"
	"math/rand"
	"slices"

	"bijou/api"
)

func passage(from, to, width, walk int) api.Passage {
	return api.Passage{From: from, To: to, Width: width, Walk: walk}
}

func move(minute, passage, people int) api.Move {
	return api.Move{Minute: minute, Passage: passage, People: people}
}

// house has rooms with some people, and passages.
func house(people []int, l ...api.Passage) api.Building {
	return api.Building{People: people, Passages: l}
}

// exampleH and exampleL are the house and the moves of the chapter's examples.
func exampleH() api.Building {
	return house([]int{5, 4}, passage(0, 1, 2, 1), passage(0, api.Outside, 1, 2), passage(1, api.Outside, 3, 1), passage(1, 0, 1, 1))
}

func exampleL() []api.Move {
	return []api.Move{move(0, 0, 2), move(0, 1, 1), move(0, 2, 3), move(1, 2, 3)}
}

// hall has one room, and one passage outside.
func hall(people, width, walk int) api.Building {
	return house([]int{people}, passage(0, api.Outside, width, walk))
}

// row has six rooms one behind the other, of which only the last one has people, and only the first one leads outside.
func row(people, width, walk int) api.Building {
	h := house([]int{0, 0, 0, 0, 0, people}, passage(0, api.Outside, width, walk))
	for room := 1; room < api.MaxChambers; room++ {
		h.Passages = append(h.Passages, passage(room, room-1, width, walk))
	}
	return h
}

// full is a house at all limits.
func full() api.Building {
	var h api.Building
	for room := range api.MaxChambers {
		h.People = append(h.People, api.MaxSouls)
		h.Passages = append(h.Passages, passage(room, api.Outside, api.MaxWidth, api.MaxPace), passage(room, (room+1)%api.MaxChambers, api.MaxWidth, api.MaxPace))
	}
	return h
}

// hopeless has a room that leads nowhere.
func hopeless() api.Building {
	return house([]int{5, 1}, passage(0, api.Outside, 20, 1), passage(0, 1, 20, 1))
}

// sound are houses without an error, most of them at the limits.
func sound() []api.Building {
	one := func(change func(h *api.Building)) api.Building { return with(exampleH(), change) }
	return []api.Building{
		exampleH(), hall(99, 20, 1), hall(0, 0, 9), row(99, 20, 9), row(7, 3, 1), full(), hopeless(),
		house([]int{0}), house([]int{99}), house(make([]int, api.MaxChambers)), house([]int{1}, []api.Passage{}...),
		one(func(h *api.Building) { h.People = []int{0, 99} }),
		one(func(h *api.Building) { h.People = []int{99, 0, 0, 0, 0, 99} }),
		one(func(h *api.Building) { h.Passages = h.Passages[:1] }),
		one(func(h *api.Building) { h.Passages = slices.Repeat(h.Passages, 3) }),
		one(func(h *api.Building) { h.Passages[0] = passage(1, 0, 0, 1) }),
		one(func(h *api.Building) { h.Passages[1] = passage(1, api.Outside, 20, 9) }),
		one(func(h *api.Building) { h.Passages[2] = h.Passages[1] }),
		one(func(h *api.Building) { h.Passages[3] = passage(0, 1, 20, 9) }),
	}
}

// with returns a copy of a house in which something was changed.
func with(h api.Building, change func(h *api.Building)) api.Building {
	h = clone(h)
	change(&h)
	return h
}

func clone(h api.Building) api.Building {
	return api.Building{People: slices.Clone(h.People), Passages: slices.Clone(h.Passages)}
}

func equal(a, b api.Building) bool {
	return slices.Equal(a.People, b.People) && slices.Equal(a.Passages, b.Passages)
}

// outside are numbers that are not from a first to a last one.
func outside(first, last int) map[string]int {
	return map[string]int{
		"just below": first - 1, "just above": last + 1, "the least": math.MinInt, "endless": math.MaxInt,
		"far below": -1 << 32, "far above": 1 << 32,
	}
}

func sum(l []int) int {
	n := 0
	for _, x := range l {
		n += x
	}
	return n
}

// The tests know what is a plan, who is out and what hours show by the words of the document, and the best plan from trying each one.

// isPlan tells whether moves are a plan up to a minute.
func isPlan(h api.Building, last int, l []api.Move) bool {
	for _, m := range l {
		if m.Minute < 0 || m.Minute > last || m.Passage < 0 || m.Passage >= len(h.Passages) || m.People < 1 || m.Minute+h.Passages[m.Passage].Walk > last {
			return false
		}
		left := h.Passages[m.Passage].Width
		for _, other := range l {
			if other.Minute != m.Minute || other.Passage != m.Passage {
				continue
			}
			if other.People > left {
				return false
			}
			left -= other.People
		}
	}
	for room := range h.People {
		for minute := range last + 1 {
			if leftBy(h, l, room, minute) > h.People[room]+cameBy(h, l, room, minute) {
				return false
			}
		}
	}
	return true
}

// leftBy returns how many people leave a room in the minutes up to one.
func leftBy(h api.Building, l []api.Move, room, minute int) int {
	n := 0
	for _, m := range l {
		if h.Passages[m.Passage].From == room && m.Minute <= minute {
			n += m.People
		}
	}
	return n
}

// cameBy returns how many people have come into a room, or outside, in the minutes up to one.
func cameBy(h api.Building, l []api.Move, room, minute int) int {
	n := 0
	for _, m := range l {
		if p := h.Passages[m.Passage]; p.To == room && m.Minute+p.Walk <= minute {
			n += m.People
		}
	}
	return n
}

func outBy(h api.Building, last int, l []api.Move) int { return cameBy(h, l, api.Outside, last) }

// boundBy returns the bound of some hours.
func boundBy(h api.Building, last int, hours []int) int {
	n := 0
	for room, people := range h.People {
		if hours[room] > 0 {
			n += people
		}
	}
	for _, p := range h.Passages {
		for minute := hours[p.From]; minute+p.Walk <= last; minute++ {
			if p.To == api.Outside || minute+p.Walk < hours[p.To] {
				n += p.Width
			}
		}
	}
	return n
}

// areHours tells whether there is a number from 0 to last + 1 for each room.
func areHours(h api.Building, last int, hours []int) bool {
	return len(hours) == len(h.People) && !slices.ContainsFunc(hours, func(hour int) bool { return hour < 0 || hour > last+1 })
}

// eachPlan calls a function with all plans up to a minute that have one move at most for each passage and minute.
func eachPlan(h api.Building, last int, do func(l []api.Move)) {
	var goOn func(l []api.Move, minute, number int)
	goOn = func(l []api.Move, minute, number int) {
		if number == len(h.Passages) {
			minute, number = minute+1, 0
		}
		if minute >= last || len(h.Passages) == 0 {
			do(l)
			return
		}
		goOn(l, minute, number+1)
		for people := range canEnter(h, last, l, minute, number) {
			goOn(append(slices.Clip(l), move(minute, number, people+1)), minute, number+1)
		}
	}
	goOn(nil, 0, 0)
}

// canEnter returns how many people can enter a passage in a minute, after some moves none of which is later.
func canEnter(h api.Building, last int, l []api.Move, minute, number int) int {
	p := h.Passages[number]
	if minute+p.Walk > last {
		return 0
	}
	there := h.People[p.From] + cameBy(h, l, p.From, minute) - leftBy(h, l, p.From, minute)
	for _, m := range l {
		if m.Minute == minute && m.Passage == number {
			p.Width -= m.People
		}
	}
	return min(there, p.Width)
}

// anyPlan returns a random plan, also with several moves for a passage and a minute, in any order.
func anyPlan(rnd *rand.Rand, h api.Building, last int) []api.Move {
	var l []api.Move
	for minute := range last {
		for range 2 {
			for _, number := range rnd.Perm(len(h.Passages)) {
				if people := rnd.Intn(canEnter(h, last, l, minute, number) + 1); people > 0 {
					l = append(l, move(minute, number, people))
				}
			}
		}
	}
	rnd.Shuffle(len(l), func(i, j int) { l[i], l[j] = l[j], l[i] })
	return l
}

// anyHours returns a random number from 0 to last + 1 for each room.
func anyHours(rnd *rand.Rand, h api.Building, last int) []int {
	var l []int
	for range h.People {
		l = append(l, rnd.Intn(last+2))
	}
	return l
}

// size is how large a random house is at the most.
type size struct{ rooms, people, passages, width, walk int }

// Houses that are small, large, and in between.
var (
	tiny   = size{3, 4, 5, 3, 2}
	middle = size{4, 9, 7, 4, 3}
	large  = size{6, 99, 12, 20, 9}
)

func randomPassage(rnd *rand.Rand, rooms int, s size) api.Passage {
	from, to := rnd.Intn(rooms), rnd.Intn(rooms+1)-1
	if from == to || rnd.Intn(4) == 0 {
		to = api.Outside
	}
	return passage(from, to, rnd.Intn(s.width+1), 1+rnd.Intn(s.walk))
}

func randomHouse(rnd *rand.Rand, s size) api.Building {
	var h api.Building
	for range 1 + rnd.Intn(s.rooms) {
		h.People = append(h.People, rnd.Intn(s.people+1))
	}
	for range rnd.Intn(s.passages + 1) {
		h.Passages = append(h.Passages, randomPassage(rnd, len(h.People), s))
	}
	return h
}

// eachHouse calls a function with random houses.
func eachHouse(seed int64, times int, s size, do func(rnd *rand.Rand, h api.Building)) {
	rnd := rand.New(rand.NewSource(seed))
	for range times {
		do(rnd, randomHouse(rnd, s))
	}
}
