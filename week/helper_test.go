package week_test

import (
	"math/rand"
	"slices"

	"bijou/api"
	"bijou/week"
)

func movie(price int, crowd ...int) api.Movie { return api.Movie{Price: price, Crowd: crowd} }

func least(film, times int) api.Deal { return api.Deal{Kind: api.Least, Film: film, Times: times} }

func most(film, times int) api.Deal { return api.Deal{Kind: api.Most, Film: film, Times: times} }

func clean(film int) api.Deal { return api.Deal{Kind: api.Clean, Film: film} }

func apart(film int) api.Deal { return api.Deal{Kind: api.Apart, Film: film} }

func every(film int) api.Deal { return api.Deal{Kind: api.Every, Film: film} }

// during returns a deal for some days and hours.
func during(d api.Deal, from, to, early, late int) api.Deal {
	d.From, d.To, d.Early, d.Late = from, to, early, late
	return d
}

// in returns a deal for screens with at least so many seats.
func in(seats int, d api.Deal) api.Deal {
	d.Seats = seats
	return d
}

// exampleW and exampleV are the weeks of the chapter's examples.
func exampleW() api.Week {
	return api.Week{
		Days: 1, Rooms: []int{100, 50}, Hours: 2,
		Films: []api.Movie{movie(10, 80, 120), movie(8, 40, 90)},
		Deals: []api.Deal{during(least(1, 2), 0, 0, 0, 1), in(100, during(clean(0), 0, 0, 0, 1))},
	}
}

func exampleV() api.Week { return plus(exampleW(), during(most(0, 0), 0, 0, 1, 1)) }

// full is a week at all limits, with deals of all kinds that can be kept.
func full() api.Week {
	w := api.Week{Days: 2, Rooms: []int{api.MaxSeats, api.MaxSeats - 100}, Hours: 2}
	for n := range api.MaxFilms {
		w.Films = append(w.Films, movie(api.MaxPrice-n, api.MaxCrowd, 500-100*n))
	}
	w.Deals = []api.Deal{
		both(least(0, 1)), both(most(0, 3)), in(api.MaxSeats, during(clean(1), 0, 0, 0, 1)), during(apart(2), 1, 1, 0, 1),
		during(every(3), 1, 1, 1, 1), both(least(2, 2)), both(most(3, api.MaxSlots)), in(api.MaxSeats, both(least(1, 2))),
	}
	return w
}

// fullMost is the greatest takings of the full week: on its day 0 the films are 1 1 2 0, on its day 1 they are 0 0 2 3, slot by slot.
const fullMost = 99*(500+400) + 98*400 + 100*400 + 100*(500+500) + 98*400 + 97*200

// plus returns a week with more deals.
func plus(w api.Week, deals ...api.Deal) api.Week {
	return with(w, func(w *api.Week) { w.Deals = append(w.Deals, deals...) })
}

// only returns a week with some of its deals.
func only(w api.Week, deals []int) api.Week {
	return with(w, func(w *api.Week) {
		all := w.Deals
		w.Deals = nil
		for _, n := range deals {
			w.Deals = append(w.Deals, all[n])
		}
	})
}

// less returns a week without one of its deals.
func less(w api.Week, deal int) api.Week {
	return with(w, func(w *api.Week) { w.Deals = slices.Delete(w.Deals, deal, deal+1) })
}

// with returns a copy of a week in which something was changed.
func with(w api.Week, change func(*api.Week)) api.Week {
	w = clone(w)
	change(&w)
	return w
}

func clone(w api.Week) api.Week {
	w.Rooms, w.Films, w.Deals = slices.Clone(w.Rooms), slices.Clone(w.Films), slices.Clone(w.Deals)
	for n := range w.Films {
		w.Films[n].Crowd = slices.Clone(w.Films[n].Crowd)
	}
	return w
}

func equal(a, b api.Week) bool {
	sameFilm := func(a, b api.Movie) bool { return a.Price == b.Price && slices.Equal(a.Crowd, b.Crowd) }
	return a.Days == b.Days && a.Hours == b.Hours && slices.Equal(a.Rooms, b.Rooms) &&
		slices.EqualFunc(a.Films, b.Films, sameFilm) && slices.Equal(a.Deals, b.Deals)
}

// The tests know the best program from trying each program, and each deal from its words.

// slot is a time on a screen.
type slot struct{ day, screen, hour int }

// slotsIn returns all slots of a week in their order.
func slotsIn(w api.Week) []slot {
	var l []slot
	for day := range w.Days {
		for screen := range w.Rooms {
			for hour := range w.Hours {
				l = append(l, slot{day, screen, hour})
			}
		}
	}
	return l
}

// isOf tells whether a slot is one of a deal.
func isOf(w api.Week, d api.Deal, s slot) bool {
	return d.From <= s.day && s.day <= d.To && d.Early <= s.hour && s.hour <= d.Late && w.Rooms[s.screen] >= d.Seats
}

// shown returns the slots of a deal that show its film.
func shown(w api.Week, p []int, d api.Deal) map[slot]bool {
	l := map[slot]bool{}
	for n, s := range slotsIn(w) {
		if p[n] == d.Film && isOf(w, d, s) {
			l[s] = true
		}
	}
	return l
}

// isKept tells whether a program keeps a deal.
func isKept(w api.Week, p []int, d api.Deal) bool {
	l := shown(w, p, d)
	switch d.Kind {
	case api.Least:
		return len(l) >= d.Times
	case api.Most:
		return len(l) <= d.Times
	case api.Clean:
		return eachDay(d, func(day int) bool {
			return anyScreen(w, func(screen int) bool {
				return eachHour(d, func(hour int) bool { return l[slot{day, screen, hour}] })
			})
		})
	case api.Apart:
		for a := range l {
			for b := range l {
				if a.day == b.day && a.hour == b.hour && a.screen != b.screen {
					return false
				}
			}
		}
		return true
	default:
		return eachDay(d, func(day int) bool {
			return eachHour(d, func(hour int) bool {
				return anyScreen(w, func(screen int) bool { return l[slot{day, screen, hour}] })
			})
		})
	}
}

func eachDay(d api.Deal, is func(int) bool) bool {
	for day := d.From; day <= d.To; day++ {
		if !is(day) {
			return false
		}
	}
	return true
}

func eachHour(d api.Deal, is func(int) bool) bool {
	for hour := d.Early; hour <= d.Late; hour++ {
		if !is(hour) {
			return false
		}
	}
	return true
}

func anyScreen(w api.Week, is func(int) bool) bool {
	for screen := range w.Rooms {
		if is(screen) {
			return true
		}
	}
	return false
}

// brokenBy returns the deals that a program does not keep.
func brokenBy(w api.Week, p []int) []int {
	var l []int
	for n, d := range w.Deals {
		if !isKept(w, p, d) {
			l = append(l, n)
		}
	}
	return l
}

// taken returns the takings of a program.
func taken(w api.Week, p []int) int {
	sum := 0
	for n, s := range slotsIn(w) {
		if p[n] != api.Dark {
			m := w.Films[p[n]]
			sum += m.Price * min(m.Crowd[s.hour], w.Rooms[s.screen])
		}
	}
	return sum
}

// eachProgram calls a function with each program of a week.
func eachProgram(w api.Week, do func(p []int)) {
	p := slices.Repeat([]int{api.Dark}, len(slotsIn(w)))
	for {
		do(p)
		n := 0
		for n < len(p) && p[n] == len(w.Films)-1 {
			p[n] = api.Dark
			n++
		}
		if n == len(p) {
			return
		}
		p[n]++
	}
}

// known is what trying each program tells of a week: the greatest takings for each set of deals that are broken, as a number with a bit for each of them.
type known struct {
	deals   int
	takings map[int]int
}

func know(w api.Week) known {
	k := known{len(w.Deals), map[int]int{}}
	eachProgram(w, func(p []int) {
		broken := 0
		for _, n := range brokenBy(w, p) {
			broken |= 1 << n
		}
		if most, ok := k.takings[broken]; !ok || most < taken(w, p) {
			k.takings[broken] = taken(w, p)
		}
	})
	return k
}

// most returns the greatest takings with which some deals are kept, -1 if they cannot be.
func (k known) most(deals []int) int {
	most := -1
	for broken, takings := range k.takings {
		if !slices.ContainsFunc(deals, func(n int) bool { return broken>>n&1 == 1 }) {
			most = max(most, takings)
		}
	}
	return most
}

// all returns all deals but some.
func (k known) all(but ...int) []int {
	var l []int
	for n := range k.deals {
		if !slices.Contains(but, n) {
			l = append(l, n)
		}
	}
	return l
}

// clash returns the first of the smallest sets of deals that cannot be kept together.
func (k known) clash() []int {
	for size := range k.deals + 1 {
		if l := k.clashOf(nil, size); l != nil {
			return l
		}
	}
	return nil
}

// clashOf returns the first set that cannot be kept of the ones that begin with some deals, and have so many more.
func (k known) clashOf(start []int, more int) []int {
	if more == 0 {
		if k.most(start) == -1 {
			return start
		}
		return nil
	}
	first := 0
	if len(start) > 0 {
		first = start[len(start)-1] + 1
	}
	for n := first; n < k.deals; n++ {
		if l := k.clashOf(append(slices.Clone(start), n), more-1); l != nil {
			return l
		}
	}
	return nil
}

// Random weeks have few slots and rooms of two sizes, so that all programs can be tried, and deals that ask for about as much as there is.

func randomWeek(rnd *rand.Rand, slots, films, deals int) api.Week {
	var w api.Week
	for w.Days == 0 || w.Days*len(w.Rooms)*w.Hours > slots {
		w = api.Week{Days: 1 + rnd.Intn(4), Rooms: randomRooms(rnd), Hours: 1 + rnd.Intn(3)}
	}
	for range 1 + rnd.Intn(films) {
		w.Films = append(w.Films, randomFilm(rnd, w.Hours))
	}
	for range rnd.Intn(deals + 1) {
		w.Deals = append(w.Deals, randomDeal(rnd, w))
	}
	return w
}

func randomRooms(rnd *rand.Rand) []int {
	var l []int
	for range 1 + rnd.Intn(4) {
		l = append(l, []int{50, 100, 100, 50 + rnd.Intn(60)}[rnd.Intn(4)])
	}
	return l
}

func randomFilm(rnd *rand.Rand, hours int) api.Movie {
	m := movie(rnd.Intn(12))
	for range hours {
		m.Crowd = append(m.Crowd, rnd.Intn(130))
	}
	return m
}

func randomDeal(rnd *rand.Rand, w api.Week) api.Deal {
	d := api.Deal{Kind: 1 + rnd.Intn(5), Film: rnd.Intn(len(w.Films)), Seats: []int{0, 0, 50, 51, 100, 101}[rnd.Intn(6)]}
	d.From, d.To = randomPart(rnd, w.Days)
	d.Early, d.Late = randomPart(rnd, w.Hours)
	if d.Kind == api.Least || d.Kind == api.Most {
		d.Times = rnd.Intn(4)
	}
	return d
}

// randomPart returns the first and the last of some consecutive numbers below one.
func randomPart(rnd *rand.Rand, n int) (first, last int) {
	first = rnd.Intn(n)
	return first, first + rnd.Intn(n-first)
}

// mostOf returns what a call of Most says, -1 if there is no program.
func mostOf(w api.Week) int {
	n, e := week.Most(w)
	if e == api.ErrNone {
		return -1
	}
	return n
}
