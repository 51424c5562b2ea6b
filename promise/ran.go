package promise

import (
	"maps"
	"slices"

	"bijou/api"
)

// read returns the pairs for which reports count, and how many spots they name for a showing that count for no promise.
func (b book) read(l []api.Ran) (ran pairs, others int) {
	ran = pairs{}
	unasked := map[api.Ran]bool{}
	for _, r := range l {
		p := pair{b.promiseOf(r.Spot), r.Showing}
		if b.fits[p] {
			ran[p] = true
		} else {
			unasked[api.Ran{Showing: r.Showing, Spot: r.Spot}] = true
		}
	}
	return ran, len(unasked)
}

// after returns the book of what is owed after reports.
func (b book) after(l []api.Ran) book {
	ran, _ := b.read(l)
	b.Promises, b.fits = slices.Clone(b.Promises), maps.Clone(b.fits)
	for promise, count := range b.counts(ran) {
		b.Promises[promise].Times = max(0, b.Promises[promise].Times-count)
	}
	for p := range ran {
		delete(b.fits, p)
	}
	return b
}

// from returns the book in which showings before a day have no places.
func (b book) from(day int) book {
	b.Showings = slices.Clone(b.Showings)
	for showing, s := range b.Showings {
		if s.Day < day {
			b.Showings[showing].Room = 0
		}
	}
	return b
}
