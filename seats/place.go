package seats

import "iter"

// places yields the row and the first seat of all places for a group, the lowest row and in it the lowest seat first.
func (w *hall) places(size int) iter.Seq2[int, int] {
	return func(yield func(row, seat int) bool) {
		for row, seats := range w.seats {
		place:
			for seat := range len(seats) - size + 1 {
				for n := range size {
					if seats[seat+n] != free {
						continue place
					}
				}
				if !yield(row, seat) {
					return
				}
			}
		}
	}
}

// best returns the place that a group gets, if there is one.
func (w *hall) best(size int) (row, seat int, ok bool) {
	for r, s := range w.places(size) {
		if !leavesGap(w.seats[r], s, size) {
			return r, s, true
		}
		if !ok {
			row, seat, ok = r, s, true
		}
	}
	return row, seat, ok
}

// leavesGap tells whether a group on a place in a row would leave a gap.
func leavesGap(seats []int, seat, size int) bool {
	isFree := func(n int) bool { return 0 <= n && n < len(seats) && seats[n] == free }
	before, behind := seat-1, seat+size
	return isFree(before) && !isFree(before-1) || isFree(behind) && !isFree(behind+1)
}

// groups returns how many groups of a size can be seated at most.
func (w *hall) groups(size int) int {
	count, last, next := 0, -1, 0
	for row, seat := range w.places(size) {
		// A group that sits as near to the one before it as it can leaves the most seats to the others.
		if row != last || seat >= next {
			count, last, next = count+1, row, seat+size
		}
	}
	return count
}
