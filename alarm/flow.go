package alarm

import "bijou/api"

// The first nodes; behind them each room has one for each minute.
const (
	start = iota
	outside
	firstRoom
)

// arc leads at most so many people from a node to another one: through a passage, or to the next minute in a room.
type arc struct {
	use
	from, to, width int
}

// flow is a house over time, with the arcs that begin or end at each node, and the nodes that more people have reached.
type flow struct {
	timed
	arcs [][]arc
	seen []bool
}

// emptied returns a house over time from which as many people as can be are led outside up to a minute.
func emptied(h api.Building, last int) flow {
	f := newFlow(h, last)
	for f.lead(start, f.everyone()) > 0 {
		clear(f.seen)
	}
	return f
}

func newFlow(h api.Building, last int) flow {
	nodes := firstRoom + len(h.People)*(last+1)
	f := flow{newTimed(h, last), make([][]arc, nodes), make([]bool, nodes)}
	for room, people := range h.People {
		f.add(arc{stay(room, -1), start, f.node(room, 0), people})
		for minute := range last {
			f.add(arc{stay(room, minute), f.node(room, minute), f.node(room, minute+1), f.everyone()})
		}
	}
	for passage, p := range h.Passages {
		for minute := range last - p.Walk + 1 {
			f.add(arc{use{passage, minute}, f.node(p.From, minute), f.node(p.To, minute+p.Walk), p.Width})
		}
	}
	return f
}

// stay is the use of no passage: people who are in a room from a minute to the next one.
func stay(room, minute int) use { return use{-1 - room, minute} }

func (f flow) node(room, minute int) int {
	if room == api.Outside {
		return outside
	}
	return firstRoom + room*(f.last+1) + minute
}

func (f flow) add(a arc) {
	f.arcs[a.from] = append(f.arcs[a.from], a)
	f.arcs[a.to] = append(f.arcs[a.to], a)
}

// lead leads up to so many people outside from a node, by nodes that nobody has reached yet, and returns how many.
func (f flow) lead(from, people int) int {
	if from == outside {
		return people
	}
	f.seen[from] = true
	gone := 0
	for _, a := range f.arcs[from] {
		to, free, sign := f.over(a, from)
		free = min(free, people-gone)
		if f.seen[to] || free == 0 {
			continue
		}
		more := f.lead(to, free)
		f.used[a.use] += sign * more
		gone += more
	}
	return gone
}

// over returns the node at the other end of an arc, and for how many more people it is free: if they come against its direction, instead of as many who use it, who then go on from here. The sign tells which.
func (f flow) over(a arc, from int) (to, free, sign int) {
	if a.from == from {
		return a.to, a.width - f.used[a.use], 1
	}
	return a.from, f.used[a.use], -1
}

// hours returns for each room the first minute at which more people could still reach it, after nobody more could be led outside; one above the last minute if there is none.
func (f flow) hours() []int {
	var hours []int
	for room := range f.People {
		hour := 0
		for hour <= f.last && !f.seen[f.node(room, hour)] {
			hour++
		}
		hours = append(hours, hour)
	}
	return hours
}
