package promise

// draft is a book, and the pairs that its showings have so far.
type draft struct {
	book
	has pairs
}

// best returns the pairs of a plan with the greatest worth.
func (b book) best() pairs {
	d := draft{b, pairs{}}
	for promise, p := range b.Promises {
		for range p.Times {
			// What finds no place now finds none later either: later ones never move what it could have moved.
			if !d.place(promise, map[int]bool{}) {
				break
			}
		}
	}
	return d.has
}

// place gives a promise one more showing that was not tried yet, and tells whether it could.
func (d draft) place(promise int, tried map[int]bool) bool {
	for showing := range len(d.Showings) {
		p := pair{promise, showing}
		if tried[showing] || d.has[p] || !d.fits[p] {
			continue
		}
		tried[showing] = true
		if d.isOpen(showing) || d.moveOne(showing, tried) {
			d.has[p] = true
			return true
		}
	}
	return false
}

// isOpen tells whether a showing has a place left.
func (d draft) isOpen(showing int) bool {
	return len(d.spots(d.has, showing)) < d.Showings[showing].Room
}

// moveOne gives one of the promises of a showing another one that was not tried yet, and tells whether it could.
func (d draft) moveOne(showing int, tried map[int]bool) bool {
	for _, promise := range d.spots(d.has, showing) {
		if d.place(promise, tried) {
			delete(d.has, pair{promise, showing})
			return true
		}
	}
	return false
}
