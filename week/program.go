package week

import (
	"iter"
	"slices"

	"bijou/api"
)

// outcome is what films take together, and the deals that none of them breaks.
type outcome struct {
	takings int
	kept    set
}

// program is the set of slots in which each film is shown, that of the slots that are dark, and the outcome.
type program struct {
	outcome
	shown [api.MaxFilms]set
	dark  set
}

// programs yields all programs of a week.
func programs(w api.Week) iter.Seq[program] {
	l := dark(w)
	for film := range w.Films {
		l = adding(l, film, outcomes(w, film))
	}
	return l
}

// dark yields only the program in which no film is shown.
func dark(w api.Week) iter.Seq[program] {
	return func(yield func(program) bool) {
		yield(program{outcome: outcome{kept: allDeals(w)}, dark: below(slotCount(w))})
	}
}

// adding yields each of some programs with a film, of which the outcomes are given, in each set of slots that are dark.
func adding(l iter.Seq[program], film int, outcomes []outcome) iter.Seq[program] {
	return func(yield func(program) bool) {
		for p := range l {
			for slots := range p.dark.subsets() {
				if !yield(p.showing(film, slots, outcomes[slots])) {
					return
				}
			}
		}
	}
}

// showing returns a program in which a film, of which the outcome is given, is shown in some more slots.
func (p program) showing(film int, slots set, o outcome) program {
	p.takings += o.takings
	p.kept &= o.kept
	p.shown[film] = slots
	p.dark &^= slots
	return p
}

// films returns the film of each of so many slots.
func (p program) films(slots int) []int {
	l := slices.Repeat([]int{api.Dark}, slots)
	for film, shown := range p.shown {
		for _, slot := range shown.numbers() {
			l[slot] = film
		}
	}
	return l
}

// slotsOf returns the slots of a program, given as the film of each slot, that show a film.
func slotsOf(p []int, film int) set {
	var slots set
	for slot, shown := range p {
		if shown == film {
			slots = slots.with(slot)
		}
	}
	return slots
}

// outcomes returns the outcome of a film alone for each set of slots in which it can be shown.
func outcomes(w api.Week, film int) []outcome {
	l := make([]outcome, 1<<slotCount(w))
	for slots := range below(slotCount(w)).subsets() {
		l[slots] = outcome{takings(w, film, slots), kept(w, film, slots)}
	}
	return l
}

// takings returns what a film takes in some slots.
func takings(w api.Week, film int, slots set) int {
	people := 0
	for _, slot := range slots.numbers() {
		hour, screen := slot%w.Hours, slot/w.Hours%len(w.Rooms)
		people += min(w.Films[film].Crowd[hour], w.Rooms[screen])
	}
	return people * w.Films[film].Price
}

// kept returns the deals that a film does not break if it is shown in just some slots; those of other films are among them.
func kept(w api.Week, film int, slots set) set {
	deals := allDeals(w)
	for n, d := range w.Deals {
		if d.Film == film && !keeps(w, d, slots) {
			deals = deals.without(n)
		}
	}
	return deals
}

func allDeals(w api.Week) set { return below(len(w.Deals)) }
