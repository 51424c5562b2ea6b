package week_test

import (
	"math"
	"slices"

	"bijou/api"
)

type fault struct {
	change func(w *api.Week)
	e      api.Errno
}

type adder func(name string, e api.Errno, change func(w *api.Week))

// faulty are changes to the week V of the examples, each with the first error that it then has.
func faulty() map[string]fault {
	all := map[string]fault{}
	add := func(name string, e api.Errno, change func(w *api.Week)) {
		if _, ok := all[name]; ok {
			panic("two faults have the name " + name)
		}
		all[name] = fault{change, e}
	}
	addTimes(add)
	addRooms(add)
	addFilms(add)
	addDeals(add)
	addKinds(add)
	add("a wrong week and a wrong deal", api.ErrWeek, func(w *api.Week) { w.Films[1].Price, w.Deals[0].Film = -1, 2 })
	add("9 deals, one of them wrong", api.ErrWeek, func(w *api.Week) {
		w.Deals = slices.Repeat(w.Deals, 3)
		w.Deals[0].Kind = 0
	})
	add("a film less, of which there are deals", api.ErrDeal, func(w *api.Week) { w.Films = w.Films[:1] })
	return all
}

func addTimes(add adder) {
	addTime := func(name string, days, hours int) {
		add(name, api.ErrWeek, func(w *api.Week) {
			w.Days, w.Hours = days, hours
			// The crowds are as the hours ask, as far as they can be.
			for n := range w.Films {
				w.Films[n].Crowd = make([]int, max(0, min(hours, 100)))
			}
			w.Deals = nil
		})
	}
	addTime("no days", 0, 2)
	addTime("-1 days", -1, 2)
	addTime("-1 days and -1 hours", -1, -1)
	addTime("the least days", math.MinInt, 2)
	addTime("endless days", math.MaxInt, 2)
	addTime("days so many that they overflow to 4 slots", 1<<62+1, 2)
	addTime("no hours", 1, 0)
	addTime("-1 hours", 1, -1)
	addTime("the least hours", 1, math.MinInt)
	addTime("endless hours", 1, math.MaxInt)
	addTime("12 slots of 2 days and 3 hours", 2, 3)
	addTime("10 slots of 5 days", 5, 1)
	addSlots := func(name string, days, rooms, hours int) {
		add(name, api.ErrWeek, func(w *api.Week) {
			*w = api.Week{Days: days, Rooms: slices.Repeat([]int{1}, rooms), Hours: hours, Films: []api.Movie{movie(1, make([]int, hours)...)}}
		})
	}
	addSlots("8 days with 1 slot", 8, 1, 1)
	addSlots("5 hours on a screen", 1, 1, 5)
	addSlots("5 rooms", 1, 5, 1)
	addSlots("9 slots", 3, 3, 1)
	addSlots("9 slots on one day", 1, 3, 3)
	addSlots("all limits at once", 7, 4, 4)
}

func addRooms(add adder) {
	addRoom := func(name string, rooms ...int) {
		add(name, api.ErrWeek, func(w *api.Week) { w.Rooms = rooms })
	}
	addRoom("nil rooms")
	addRoom("no rooms", []int{}...)
	addRoom("a room of 0", 100, 0)
	addRoom("a first room of 0", 0, 50)
	addRoom("a room of -1", 100, -1)
	addRoom("a room of 501", 100, 501)
	addRoom("the least room", 100, math.MinInt)
	addRoom("an endless room", math.MaxInt, 50)
	addRoom("1000 rooms", slices.Repeat([]int{1}, 1000)...)
	add("nothing at all", api.ErrWeek, func(w *api.Week) { *w = api.Week{} })
}

func addFilms(add adder) {
	addFilm := func(name string, change func(m *api.Movie)) {
		add(name, api.ErrWeek, func(w *api.Week) { change(&w.Films[1]) })
	}
	addFilm("a price -1", func(m *api.Movie) { m.Price = -1 })
	addFilm("a price 101", func(m *api.Movie) { m.Price = 101 })
	addFilm("the least price", func(m *api.Movie) { m.Price = math.MinInt })
	addFilm("an endless price", func(m *api.Movie) { m.Price = math.MaxInt })
	addFilm("no crowd", func(m *api.Movie) { m.Crowd = nil })
	addFilm("a crowd less than hours", func(m *api.Movie) { m.Crowd = m.Crowd[:1] })
	addFilm("a crowd more than hours", func(m *api.Movie) { m.Crowd = append(m.Crowd, 1) })
	addFilm("a crowd of -1", func(m *api.Movie) { m.Crowd[1] = -1 })
	addFilm("a first crowd of -1", func(m *api.Movie) { m.Crowd[0] = -1 })
	addFilm("a crowd of 1000", func(m *api.Movie) { m.Crowd[1] = 1000 })
	addFilm("an endless crowd", func(m *api.Movie) { m.Crowd[0] = math.MaxInt })
	add("a wrong first film", api.ErrWeek, func(w *api.Week) { w.Films[0].Price = 101 })
	add("5 films", api.ErrWeek, func(w *api.Week) {
		w.Films = append(w.Films, movie(1, 1, 1), movie(1, 1, 1), movie(1, 1, 1))
	})
	add("5 equal films", api.ErrWeek, func(w *api.Week) { w.Films = slices.Repeat(w.Films[:1], 5) })
	add("9 deals", api.ErrWeek, func(w *api.Week) { w.Deals = slices.Repeat(w.Deals, 3) })
	add("9 equal deals", api.ErrWeek, func(w *api.Week) { w.Deals = slices.Repeat(w.Deals[:1], 9) })
}

func addDeals(add adder) {
	addDeal := func(name string, change func(d *api.Deal)) {
		add(name, api.ErrDeal, func(w *api.Week) { change(&w.Deals[1]) })
	}
	addDeal("a film -1", func(d *api.Deal) { d.Film = -1 })
	addDeal("a film 2", func(d *api.Deal) { d.Film = 2 })
	addDeal("an endless film", func(d *api.Deal) { d.Film = math.MaxInt })
	addDeal("from the day -1", func(d *api.Deal) { d.From = -1 })
	addDeal("from the day 1", func(d *api.Deal) { d.From = 1 })
	addDeal("from and to the day 1", func(d *api.Deal) { d.From, d.To = 1, 1 })
	addDeal("to the day 1", func(d *api.Deal) { d.To = 1 })
	addDeal("to the day -1", func(d *api.Deal) { d.To = -1 })
	addDeal("from and to the day -1", func(d *api.Deal) { d.From, d.To = -1, -1 })
	addDeal("days without an end", func(d *api.Deal) { d.From, d.To = math.MinInt, math.MaxInt })
	addDeal("from the hour -1", func(d *api.Deal) { d.Early = -1 })
	addDeal("from the hour 1 to 0", func(d *api.Deal) { d.Early, d.Late = 1, 0 })
	addDeal("from the hour 2", func(d *api.Deal) { d.Early = 2 })
	addDeal("from and to the hour 2", func(d *api.Deal) { d.Early, d.Late = 2, 2 })
	addDeal("to the hour 2", func(d *api.Deal) { d.Late = 2 })
	addDeal("to the hour -1", func(d *api.Deal) { d.Late = -1 })
	addDeal("hours without an end", func(d *api.Deal) { d.Early, d.Late = math.MinInt, math.MaxInt })
	addDeal("-1 seats", func(d *api.Deal) { d.Seats = -1 })
	addDeal("501 seats", func(d *api.Deal) { d.Seats = 501 })
	addDeal("endless seats", func(d *api.Deal) { d.Seats = math.MaxInt })
	add("a wrong first deal", api.ErrDeal, func(w *api.Week) { w.Deals[0].Film = 2 })
	add("a wrong last deal", api.ErrDeal, func(w *api.Week) { w.Deals[2].Film = 2 })
	add("from the day 1 to 0", api.ErrDeal, func(w *api.Week) { w.Days, w.Deals[0].From, w.Deals[0].To = 2, 1, 0 })
	add("deals without films", api.ErrDeal, func(w *api.Week) { w.Films = nil })
	add("a deal of nothing", api.ErrDeal, func(w *api.Week) { w.Deals = append(w.Deals, api.Deal{}) })
}

func addKinds(add adder) {
	addKind := func(name string, kind, times int) {
		add(name, api.ErrDeal, func(w *api.Week) { w.Deals[1].Kind, w.Deals[1].Times = kind, times })
	}
	addKind("the kind 0", 0, 0)
	addKind("the kind -1", -1, 0)
	addKind("the kind 6", 6, 0)
	addKind("an endless kind", math.MaxInt, 0)
	addKind("least -1", api.Least, -1)
	addKind("least 9", api.Least, 9)
	addKind("least of all", api.Least, math.MinInt)
	addKind("most -1", api.Most, -1)
	addKind("most 9", api.Most, 9)
	addKind("most of all", api.Most, math.MaxInt)
	addKind("clean 1", api.Clean, 1)
	addKind("clean -1", api.Clean, -1)
	addKind("apart 1", api.Apart, 1)
	addKind("apart -1", api.Apart, -1)
	addKind("every 1", api.Every, 1)
	addKind("every -1", api.Every, -1)
}

// sound are weeks without an error, most of them at the limits.
func sound() []api.Week {
	one := func(change func(w *api.Week)) api.Week { return with(exampleV(), change) }
	shaped := func(days, rooms, hours int) api.Week {
		w := api.Week{Days: days, Rooms: slices.Repeat([]int{500}, rooms), Hours: hours}
		w.Films = []api.Movie{movie(100, slices.Repeat([]int{999}, hours)...), movie(0, make([]int, hours)...)}
		w.Deals = []api.Deal{in(500, during(least(1, 8), days-1, days-1, hours-1, hours-1)), in(0, during(clean(0), 0, days-1, 0, hours-1))}
		return w
	}
	return []api.Week{
		exampleW(), exampleV(), full(),
		shaped(7, 1, 1), shaped(1, 4, 1), shaped(1, 4, 2), shaped(1, 1, 4), shaped(2, 1, 4), shaped(2, 4, 1), shaped(1, 2, 4), shaped(4, 2, 1), shaped(2, 2, 2), shaped(1, 1, 1),
		one(func(w *api.Week) { w.Deals = nil }),
		one(func(w *api.Week) { w.Deals = []api.Deal{} }),
		one(func(w *api.Week) { w.Deals, w.Films = nil, nil }),
		one(func(w *api.Week) { w.Films = append(w.Films, movie(0, 0, 0), movie(100, 999, 999)) }),
		one(func(w *api.Week) { w.Films = slices.Repeat(w.Films[:1], 4) }),
		one(func(w *api.Week) { w.Deals = slices.Repeat(w.Deals[:2], 4) }),
		one(func(w *api.Week) { w.Deals[1].Seats = 500 }),
		one(func(w *api.Week) { w.Deals[0].Times = 8 }),
		one(func(w *api.Week) { w.Deals[2].Times = 8 }),
		{Days: 1, Rooms: []int{1}, Hours: 1},
	}
}
