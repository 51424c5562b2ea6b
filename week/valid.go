package week

import (
	"slices"

	"bijou/api"
)

// checkProgram returns the first error of a week and a program.
func checkProgram(w api.Week, p []int) api.Errno {
	if e := Check(w); e != api.OK {
		return e
	}
	isShown := func(film int) bool { return film == api.Dark || isWithin(film, 0, len(w.Films)-1) }
	if len(p) != slotCount(w) || !all(p, isShown) {
		return api.ErrProgram
	}
	return api.OK
}

// validWeek tells whether a week is valid, apart from what its deals have.
func validWeek(w api.Week) bool {
	isCrowd := func(people int) bool { return isWithin(people, 0, api.MaxCrowd) }
	isFilm := func(m api.Movie) bool {
		return isWithin(m.Price, 0, api.MaxPrice) && len(m.Crowd) == w.Hours && all(m.Crowd, isCrowd)
	}
	return validSlots(w) && len(w.Films) <= api.MaxFilms && all(w.Films, isFilm) && len(w.Deals) <= api.MaxDeals
}

func validSlots(w api.Week) bool {
	isRoom := func(seats int) bool { return isWithin(seats, 1, api.MaxSeats) }
	return isWithin(w.Days, 1, api.MaxDays) &&
		isWithin(len(w.Rooms), 1, api.MaxRooms) && all(w.Rooms, isRoom) &&
		isWithin(w.Hours, 1, api.MaxHours) && slotCount(w) <= api.MaxSlots
}

// validDeals tells whether each deal of a week, which is valid apart from them, is as described.
func validDeals(w api.Week) bool {
	return all(w.Deals, func(d api.Deal) bool {
		return isWithin(d.Film, 0, len(w.Films)-1) &&
			0 <= d.From && d.From <= d.To && d.To < w.Days &&
			0 <= d.Early && d.Early <= d.Late && d.Late < w.Hours &&
			isWithin(d.Seats, 0, api.MaxSeats) && validTimes(d)
	})
}

// validTimes tells whether a deal has a kind, and Times that go with it.
func validTimes(d api.Deal) bool {
	switch d.Kind {
	case api.Least, api.Most:
		return isWithin(d.Times, 0, api.MaxSlots)
	case api.Clean, api.Apart, api.Every:
		return d.Times == 0
	}
	return false
}

// all tells whether a function is true for each element.
func all[T any](l []T, is func(T) bool) bool {
	return !slices.ContainsFunc(l, func(x T) bool { return !is(x) })
}

func isWithin(n, low, high int) bool { return low <= n && n <= high }
