package turn

import (
	"slices"

	"bijou/api"
)

// evening is what happens in a house at a pace: from which minute on each screen is clean, and each team can clean the next one. Both are the minute 0 before the first slot, which holds up nobody.
type evening struct {
	api.House
	pace
	ready [api.MaxHalls]int
	idle  [api.MaxTeams]int
}

// earliest returns the evening on which everything is the earliest, before its first slot.
func earliest(h api.House) evening { return evening{House: h, pace: fastest(h)} }

// latest returns the evening on which everything is the latest, before its first slot.
func latest(h api.House) evening { return evening{House: h, pace: slowest(h)} }

// times are the minutes at which a crowd comes, enters and is seated, its show starts, and its screen is empty and clean.
type times struct {
	come, enter, seated, start, empty, ready int
}

// between returns what is between the earliest and the latest times of a slot.
func between(early, late times) api.Moment {
	return api.Moment{
		Enter:  api.Span{Low: early.enter, High: late.enter},
		Seated: api.Span{Low: early.seated, High: late.seated},
		Start:  api.Span{Low: early.start, High: late.start},
		Empty:  api.Span{Low: early.empty, High: late.empty},
		Ready:  api.Span{Low: early.ready, High: late.ready},
	}
}

// times returns the times of the next slot.
func (v evening) times(s api.Slot) times {
	var t times
	t.come = max(0, s.Begin-v.Early)
	t.enter = max(t.come, v.ready[s.Screen])
	t.seated = t.enter + v.passing(s.Crowd)
	t.start = max(s.Begin, t.seated)
	t.empty = t.start + v.runs(s) + v.passing(s.Crowd)
	t.ready = max(t.empty, v.idle[s.Team]) + v.cleaning
	return t
}

// after returns the evening after the next slot.
func (v evening) after(s api.Slot) evening {
	ready := v.times(s).ready
	v.ready[s.Screen] = ready
	v.idle[s.Team] = ready + v.Walk
	return v
}

// delays tells whether the show of the next slot is late.
func (v evening) delays(s api.Slot) bool { return v.times(s).start > s.Begin }

// waiting returns how many people of the next slots wait at a minute.
func (v evening) waiting(l []api.Slot, minute int) int {
	people := 0
	for _, s := range l {
		if t := v.times(s); t.come <= minute {
			minutes := max(0, minute-t.enter+1)
			people += max(0, s.Crowd-v.rate*minutes)
		}
		v = v.after(s)
	}
	return people
}

// assign returns a team for each of the next slots, such that no show is late, if there are such teams.
func (v evening) assign(l []api.Slot) (teams []int, ok bool) {
	if len(l) == 0 {
		return nil, true
	}
	s := l[0]
	if v.delays(s) {
		return nil, false
	}
	for team := range v.Teams {
		// Of teams that can clean from the same minute on it does not matter which one does.
		if slices.Contains(v.idle[:team], v.idle[team]) {
			continue
		}
		s.Team = team
		if others, ok := v.after(s).assign(l[1:]); ok {
			return append([]int{team}, others...), true
		}
	}
	return nil, false
}
