package count

import "bijou/api"

// choice is what a till can really have sold, the flaws that it has then, and the money that is missing.
type choice struct {
	tickets
	flaws, missing int
}

func (c choice) isWrong() bool { return c.flaws > 0 }

func (c choice) isRight() bool { return !c.isWrong() }

// choicesOf returns all that a till can really have sold.
func choicesOf(c api.Counter, seats, prices tickets) []choice {
	said := ticketsOf(c.Sold)
	var l []choice
	for _, sold := range splits(roll(c), seats) {
		x := choice{tickets: sold, missing: missing(c, sold, prices)}
		if sold != said {
			x.flaws++
		}
		if x.missing != 0 {
			x.flaws++
		}
		l = append(l, x)
	}
	return l
}

// truths are the truths of an evening: one choice of each till, such that together they fill the seats.
type truths struct {
	seats tickets
	tills [][]choice
}

func truthsOf(v api.Evening) truths {
	t := truths{seats: ticketsOf(v.Seats)}
	for _, c := range v.Counters {
		t.tills = append(t.tills, choicesOf(c, t.seats, ticketsOf(v.Prices)))
	}
	return t
}

// likely returns the choices of a till in all likely truths, and the flaws of all tills in these.
func (t truths) likely(till int) (l []choice, fewest int) {
	others := t.others(till)
	for _, c := range t.tills[till] {
		flaws, ok := others[t.seats.minus(c.tickets)]
		if !ok {
			continue
		}
		flaws += c.flaws
		if len(l) == 0 || flaws < fewest {
			l, fewest = nil, flaws
		}
		if flaws == fewest {
			l = append(l, c)
		}
	}
	return l, fewest
}

// others returns the ways of all tills but one.
func (t truths) others(till int) ways {
	w := ways{tickets{}: 0}
	for other, l := range t.tills {
		if other != till {
			w = w.with(l)
		}
	}
	return w
}

// ways are the tickets that some tills can have sold together, each with the fewest flaws of these tills.
type ways map[tickets]int

// with returns the ways of the same tills and one more.
func (w ways) with(l []choice) ways {
	more := ways{}
	keep := func(sold tickets, flaws int) {
		if n, ok := more[sold]; !ok || flaws < n {
			more[sold] = flaws
		}
	}
	for before, flaws := range w {
		for _, c := range l {
			keep(c.plus(before), flaws+c.flaws)
		}
	}
	return more
}

// tillsWhose returns all tills of whose choices in likely truths something is so.
func tillsWhose(v api.Evening, isSo func(likely []choice) bool) ([]int, api.Errno) {
	if e := checkTruth(v, 0, 0); e != api.OK {
		return nil, e
	}
	t := truthsOf(v)
	var tills []int
	for till := range len(t.tills) {
		if l, _ := t.likely(till); isSo(l) {
			tills = append(tills, till)
		}
	}
	return tills, api.OK
}

// boundsOf returns the least and the greatest number that any choice of a till has in likely truths.
func boundsOf(v api.Evening, till, show int, number func(choice) int) (api.Span, api.Errno) {
	if e := checkTruth(v, till, show); e != api.OK {
		return api.Span{}, e
	}
	l, _ := truthsOf(v).likely(till)
	s := api.Span{Low: number(l[0]), High: number(l[0])}
	for _, c := range l {
		s.Low, s.High = min(s.Low, number(c)), max(s.High, number(c))
	}
	return s, api.OK
}
