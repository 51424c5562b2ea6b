package lamp

import (
	"iter"

	"bijou/api"
)

// line is how a lamp can fade: its light when it is new, and what it loses in each hour.
type line struct{ full, fade int }

// at returns the light at an hour.
func (x line) at(hour int) int { return x.full - hour*x.fade }

// lines yields all lines of a lamp, whatever its gauges say: they are the truths of a new one.
func lines(l api.Lamp) iter.Seq[line] {
	return func(yield func(line) bool) {
		for full := l.Full.Low; full <= l.Full.High; full++ {
			for fade := l.Fade.Low; fade <= l.Fade.High; fade++ {
				if !yield(line{full, fade}) {
					return
				}
			}
		}
	}
}

// truths yields the lines in which no more gauges are wrong than can be.
func truths(l api.Lamp) iter.Seq[line] {
	wrongsIn := wrongs(l.Gauges)
	return func(yield func(line) bool) {
		for x := range lines(l) {
			if wrongsIn(x) <= l.Wrong && !yield(x) {
				return
			}
		}
	}
}

// hasTruth tells whether a lamp has a truth.
func hasTruth(l api.Lamp) bool {
	return can(l, func(line) bool { return true })
}

// surely tells whether something is so in each truth.
func surely(l api.Lamp, isSo func(line) bool) bool {
	return !can(l, func(x line) bool { return !isSo(x) })
}

// can tells whether something is so in some truth.
func can(l api.Lamp, isSo func(line) bool) bool {
	for x := range truths(l) {
		if isSo(x) {
			return true
		}
	}
	return false
}

// bounds returns the least and the greatest number that any of some lines has, and whether there is a line.
func bounds(l iter.Seq[line], number func(line) int) (s api.Span, some bool) {
	for x := range l {
		n := number(x)
		if !some {
			s, some = api.Span{Low: n, High: n}, true
		}
		s.Low, s.High = min(s.Low, n), max(s.High, n)
	}
	return s, some
}
