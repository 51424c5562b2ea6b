package reel

import "math/bits"

// feet is a set of feet: bit n stands for the foot n.
type feet uint16

// between returns all feet from one to another one.
func between(from, to int) feet { return feet(1<<(to+1) - 1<<from) }

// allFeet returns all feet of a reel of that length.
func allFeet(length int) feet { return between(0, length-1) }

// count returns how many feet there are.
func (f feet) count() int { return bits.OnesCount16(uint16(f)) }

// rows yields the length of each row of feet that were next to each other.
func (f feet) rows(yield func(length int) bool) {
	for f != 0 {
		f >>= bits.TrailingZeros16(uint16(f))
		length := bits.TrailingZeros16(^uint16(f))
		if !yield(length) {
			return
		}
		f >>= length
	}
}

// splices returns how many gaps there are between the first and the last foot.
func (f feet) splices() int {
	n := 0
	for range f.rows {
		n++
	}
	// One splice joins two rows, and no row has none either.
	return max(n-1, 0)
}

// longest returns the length of the longest row.
func (f feet) longest() int {
	most := 0
	for length := range f.rows {
		most = max(most, length)
	}
	return most
}

// list returns the numbers of the feet, of a reel of that length, in ascending order.
func (f feet) list(length int) []int {
	var l []int
	for n := range length {
		if f>>n&1 == 1 {
			l = append(l, n)
		}
	}
	return l
}
