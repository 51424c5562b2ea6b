package alarm

import (
	"slices"

	"bijou/api"
)

// use is a passage in a minute.
type use struct{ passage, minute int }

// timed is a house up to its last minute, and how many people enter each passage in each minute.
type timed struct {
	api.Building
	last int
	used map[use]int
}

func newTimed(h api.Building, last int) timed { return timed{h, last, map[use]int{}} }

// everyone returns how many people there are in all rooms.
func (t timed) everyone() int {
	sum := 0
	for _, people := range t.People {
		sum += people
	}
	return sum
}

// follow lets people move, and tells whether the moves are a plan.
func (t timed) follow(l []api.Move) bool {
	for _, m := range l {
		if !t.enter(m) {
			return false
		}
	}
	return t.isPossible()
}

// enter lets people enter a passage, if it is there, it has room for them, and they leave it in time.
func (t timed) enter(m api.Move) bool {
	if !isWithin(m.Passage, 0, len(t.Passages)-1) {
		return false
	}
	p, u := t.Passages[m.Passage], use{m.Passage, m.Minute}
	// What is left is compared, as a sum could be too great for an int.
	if !isWithin(m.Minute, 0, t.last-p.Walk) || !isWithin(m.People, 1, p.Width-t.used[u]) {
		return false
	}
	t.used[u] += m.People
	return true
}

// isPossible tells whether nobody leaves a room who is not there.
func (t timed) isPossible() bool {
	there := slices.Clone(t.People)
	for minute := range t.last {
		for passage, p := range t.Passages {
			there[p.From] -= t.used[use{passage, minute}]
			if p.To != api.Outside {
				there[p.To] += t.used[use{passage, minute - p.Walk}]
			}
		}
		if slices.Min(there) < 0 {
			return false
		}
	}
	return true
}

// out returns how many people are out at last.
func (t timed) out() int {
	sum := 0
	for passage, p := range t.Passages {
		for minute := range t.last {
			if p.To == api.Outside {
				sum += t.used[use{passage, minute}]
			}
		}
	}
	return sum
}

// moves returns the moves by which people use the passages.
func (t timed) moves() []api.Move {
	var l []api.Move
	for minute := range t.last {
		for passage := range t.Passages {
			if people := t.used[use{passage, minute}]; people > 0 {
				l = append(l, api.Move{Minute: minute, Passage: passage, People: people})
			}
		}
	}
	return l
}
