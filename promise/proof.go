package promise

// set is a set of promises: a bit for each number.
type set uint

func (s set) has(promise int) bool { return s>>promise&1 == 1 }

// numbers returns the promises of a set in ascending order.
func (s set) numbers() []int {
	var l []int
	for promise := 0; s>>promise > 0; promise++ {
		if s.has(promise) {
			l = append(l, promise)
		}
	}
	return l
}

// tightest returns the first set with the least limit, which is the greatest worth of a plan.
func (b book) tightest() set {
	var best set
	for s := range set(1) << len(b.Promises) {
		if b.limit(s) < b.limit(best) {
			best = s
		}
	}
	return best
}

// limit returns the Times of all promises that are not in a set, and the places of the set.
func (b book) limit(s set) int {
	sum := 0
	for promise, p := range b.Promises {
		if !s.has(promise) {
			sum += p.Times
		}
	}
	for showing := range len(b.Showings) {
		sum += b.places(s, showing)
	}
	return sum
}

// places returns how many promises of a set a showing can have.
func (b book) places(s set, showing int) int {
	fitting := 0
	for promise := range len(b.Promises) {
		if s.has(promise) && b.fits[pair{promise, showing}] {
			fitting++
		}
	}
	return min(b.Showings[showing].Room, fitting)
}
