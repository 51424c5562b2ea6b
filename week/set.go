package week

import (
	"iter"
	"math/bits"
)

// set is a set of slots or of deals: a bit for each number.
type set uint

// below returns the set of all numbers below one.
func below(n int) set { return 1<<n - 1 }

func (s set) has(n int) bool { return s>>n&1 == 1 }

func (s set) with(n int) set { return s | 1<<n }

func (s set) without(n int) set { return s &^ (1 << n) }

func (s set) holds(other set) bool { return s&other == other }

// numbers returns the numbers of a set in ascending order.
func (s set) numbers() []int {
	var l []int
	for n := range bits.Len(uint(s)) {
		if s.has(n) {
			l = append(l, n)
		}
	}
	return l
}

// subsets yields all sets that a set holds, the empty one first.
func (s set) subsets() iter.Seq[set] {
	return func(yield func(set) bool) {
		var sub set
		for yield(sub) && sub != s {
			// Subtracting s carries over the bits that it has not, so this counts as if there were only its own.
			sub = (sub - s) & s
		}
	}
}
