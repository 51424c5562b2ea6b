package week

import (
	"slices"

	"bijou/api"
)

// bests has, for each set of deals of which a program keeps just these, the first such program that takes the most.
type bests map[set]program

func bestOfEach(w api.Week) bests {
	b := bests{}
	for p := range programs(w) {
		if other, ok := b[p.kept]; !ok || p.takings > other.takings {
			b[p.kept] = p
		}
	}
	return b
}

// best returns a program that keeps all deals and takes the most.
func best(w api.Week) (program, api.Errno) {
	if e := Check(w); e != api.OK {
		return program{}, e
	}
	p, ok := bestOfEach(w)[allDeals(w)]
	if !ok {
		return program{}, api.ErrNone
	}
	return p, api.OK
}

// most returns the greatest takings of a program that keeps some deals, whether or not it keeps others, and whether there is one.
func (b bests) most(deals set) (int, bool) {
	most, ok := 0, false
	for kept, p := range b {
		if kept.holds(deals) {
			most, ok = max(most, p.takings), true
		}
	}
	return most, ok
}

// clash returns the first of the smallest sets of deals that no program keeps together, if there is one.
func (b bests) clash(all set) (deals []int, ok bool) {
	for together := range all.subsets() {
		if _, kept := b.most(together); kept {
			continue
		}
		if l := together.numbers(); !ok || comesBefore(l, deals) {
			deals, ok = l, true
		}
	}
	return deals, ok
}

// comesBefore tells whether a set of deals is smaller than another one, or as large and first if they are compared number by number.
func comesBefore(a, b []int) bool {
	return len(a) < len(b) || len(a) == len(b) && slices.Compare(a, b) < 0
}
