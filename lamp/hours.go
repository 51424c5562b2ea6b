package lamp

import (
	"iter"

	"bijou/api"
)

// lightAt returns what the light of a line is at an hour.
func lightAt(hour int) func(line) int {
	return func(x line) int { return x.at(hour) }
}

// isWithinAt returns whether the light of a line is in a span at an hour.
func isWithinAt(s api.Span, hour int) func(line) bool {
	return func(x line) bool { return isWithin(x.at(hour), s.Low, s.High) }
}

// isRight returns whether a gauge is not wrong in a line.
func isRight(g api.Gauge) func(line) bool {
	return isWithinAt(api.Span{Low: g.Low, High: g.High}, g.Hour)
}

// wrongs returns how many gauges are wrong in a line.
func wrongs(l []api.Gauge) func(line) int {
	return func(x line) int {
		n := 0
		for _, g := range l {
			if !isRight(g)(x) {
				n++
			}
		}
		return n
	}
}

// lastKept returns up to which hour a line keeps the norm from an hour on, -1 if there is no such hour.
func lastKept(l api.Lamp, from int) func(line) int {
	return func(x line) int {
		last := -1
		for hour := from; hour <= l.Rated && isWithinAt(l.Norm, hour)(x); hour++ {
			last = hour
		}
		return last
	}
}

// surelyKept returns up to which hour all of some lines keep the norm of a lamp from an hour on, -1 if there is no such hour, or no line.
func surelyKept(all iter.Seq[line], l api.Lamp, from int) int {
	s, some := bounds(all, lastKept(l, from))
	if !some {
		return -1
	}
	return s.Low
}

// canShow tells whether a lamp that is new, and good up to an hour, can show a day.
func canShow(goodNew int) func(hours int) bool {
	return func(hours int) bool { return hours <= goodNew }
}

// changes returns the days before which a lamp is changed that has burnt some hours and is good up to an hour, if a new one can show each day.
func changes(days []int, burnt, good, goodNew int) []int {
	var changed []int
	for day, hours := range days {
		// A lamp that is changed later has burnt less on each day that follows, so it never helps to change one that is good for the day.
		if burnt+hours > good {
			changed = append(changed, day)
			burnt, good = 0, goodNew
		}
		burnt += hours
	}
	return changed
}
