package week

import (
	"iter"

	"bijou/api"
)

// slotCount returns the number of slots of a week.
func slotCount(w api.Week) int { return w.Days * len(w.Rooms) * w.Hours }

// slot returns the number of a slot.
func slot(w api.Week, day, screen, hour int) int {
	return (day*len(w.Rooms)+screen)*w.Hours + hour
}

// keeps tells whether a deal is kept if its film is shown in just some slots.
func keeps(w api.Week, d api.Deal, shown set) bool {
	sum, least, most := 0, api.MaxSlots, 0
	for n := range hourly(w, d, shown) {
		sum, least, most = sum+n, min(least, n), max(most, n)
	}
	switch d.Kind {
	case api.Least:
		return sum >= d.Times
	case api.Most:
		return sum <= d.Times
	case api.Apart:
		return most <= 1
	case api.Every:
		return least >= 1
	}
	return isClean(w, d, shown)
}

// hourly yields for each hour of a deal on each of its days in how many of its slots the film is shown.
func hourly(w api.Week, d api.Deal, shown set) iter.Seq[int] {
	return func(yield func(int) bool) {
		for day := d.From; day <= d.To; day++ {
			for hour := d.Early; hour <= d.Late; hour++ {
				if !yield(screens(w, d, shown, day, hour)) {
					return
				}
			}
		}
	}
}

// screens returns on how many of a deal's screens the film is shown at an hour.
func screens(w api.Week, d api.Deal, shown set, day, hour int) int {
	n := 0
	for screen, seats := range w.Rooms {
		if seats >= d.Seats && shown.has(slot(w, day, screen, hour)) {
			n++
		}
	}
	return n
}

// isClean tells whether a deal's film has a screen for itself on each of its days.
func isClean(w api.Week, d api.Deal, shown set) bool {
	for day := d.From; day <= d.To; day++ {
		if !hasScreen(w, d, shown, day) {
			return false
		}
	}
	return true
}

// hasScreen tells whether one of a deal's screens shows the film at all of its hours of a day.
func hasScreen(w api.Week, d api.Deal, shown set, day int) bool {
nextScreen:
	for screen, seats := range w.Rooms {
		if seats < d.Seats {
			continue
		}
		for hour := d.Early; hour <= d.Late; hour++ {
			if !shown.has(slot(w, day, screen, hour)) {
				continue nextScreen
			}
		}
		return true
	}
	return false
}
