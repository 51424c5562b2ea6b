package reel

import (
	"slices"

	"bijou/api"
)

// truths returns all sets of feet that can be there, in an order that does not depend on that of the marks.
func truths(r api.Reel) []feet {
	l := claims(r)
	var possible []feet
	for gone := range taken(r, 0)[0].sets {
		there := allFeet(r.Feet) &^ gone
		if untrue(l, there) == 0 {
			possible = append(possible, there)
		}
	}
	return possible
}

// surelyThere returns the feet that are there in each truth, and whether there is a truth.
func surelyThere(r api.Reel) (feet, bool) {
	sure, l := allFeet(r.Feet), truths(r)
	for _, there := range l {
		sure &= there
	}
	return sure, len(l) > 0
}

// fewestDropped returns the least number of marks without which there is a truth.
func fewestDropped(r api.Reel) int {
	l := claims(r)
	least := len(r.Marks)
	for dropped, f := range taken(r, len(tears(r))) {
		for gone := range f.sets {
			least = min(least, dropped+untrue(l, allFeet(r.Feet)&^gone))
		}
	}
	return least
}

// taken returns, for each number of dropped tears up to the greatest one, all sets of feet that the other tears can have taken out.
func taken(r api.Reel, most int) []family {
	l := make([]family, most+1)
	for i := range l {
		l[i] = newFamily(r.Feet)
	}
	l[0][0] = 1 // before any tear just the empty set is gone
	for _, m := range tears(r) {
		// From the greatest number down, so that the next lower one is still without this tear.
		for i := range slices.Backward(l) {
			f := l[i].torn(m)
			if i > 0 {
				f.join(l[i-1])
			}
			l[i] = f
		}
	}
	return l
}

// untrue returns how many of the claims are not true of the feet that are there.
func untrue(l []func(feet) bool, there feet) int {
	n := 0
	for _, is := range l {
		if !is(there) {
			n++
		}
	}
	return n
}
