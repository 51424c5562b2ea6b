// Package reel is layer 1: it knows what is left of the reels of a film, from what is known of tears, splices, counts and looks.
package reel

import (
	"slices"

	"bijou/api"
)

// Check returns the first error of a reel.
func Check(r api.Reel) api.Errno {
	if r.Feet < 1 || r.Feet > api.MaxFeet || len(r.Marks) > api.MaxMarks {
		return api.ErrReel
	}
	strange := func(m api.Mark) bool { return !described(m, r.Feet) }
	if slices.ContainsFunc(r.Marks, strange) {
		return api.ErrMark
	}
	return api.OK
}

// Many returns the number of truths.
func Many(r api.Reel) (int, api.Errno) {
	if e := Check(r); e != api.OK {
		return 0, e
	}
	return len(truths(r)), api.OK
}

// Fewest returns the least number of marks without which there is a truth.
func Fewest(r api.Reel) (int, api.Errno) {
	if e := Check(r); e != api.OK {
		return 0, e
	}
	return fewestDropped(r), api.OK
}

// Left returns the bounds of the number of feet that are there.
func Left(r api.Reel) (api.Span, api.Errno) { return bounds(r, feet.count) }

// Splices returns the bounds of the number of splices.
func Splices(r api.Reel) (api.Span, api.Errno) { return bounds(r, feet.splices) }

// Longest returns the bounds of the length of the longest row of feet.
func Longest(r api.Reel) (api.Span, api.Errno) { return bounds(r, feet.longest) }

// Foot returns whether a foot is surely there, surely not, or neither.
func Foot(r api.Reel, n int) (int, api.Errno) {
	s, e := Whole(r, n, n)
	switch {
	case e != api.OK:
		return 0, e
	case s.Low == 1:
		return api.Here, api.OK
	case s.High == 0:
		return api.Away, api.OK
	}
	return api.Open, api.OK
}

// Whole returns the bounds of the number of some feet that are there.
func Whole(r api.Reel, from, to int) (api.Span, api.Errno) {
	if e := Check(r); e != api.OK {
		return api.Span{}, e
	}
	if !ordered(from, to, r.Feet) {
		return api.Span{}, api.ErrArg
	}
	part := between(from, to)
	return bounds(r, func(there feet) int { return (there & part).count() })
}

// Show returns the feet of some truth.
func Show(r api.Reel) ([]int, api.Errno) {
	if e := Check(r); e != api.OK {
		return nil, e
	}
	l := truths(r)
	if len(l) == 0 {
		return nil, api.ErrNone
	}
	return l[0].list(r.Feet), api.OK
}

// Lacks returns all feet that are surely there in none of several prints.
func Lacks(l []api.Reel) ([]int, api.Errno) {
	for _, r := range l {
		if e := Check(r); e != api.OK {
			return nil, e
		}
	}
	if !samePrints(l) {
		return nil, api.ErrArg
	}
	var have feet
	for _, r := range l {
		sure, ok := surelyThere(r)
		if !ok {
			return nil, api.ErrNone
		}
		have |= sure
	}
	length := l[0].Feet
	return (allFeet(length) &^ have).list(length), api.OK
}

// samePrints tells whether the reels can be prints that are put together.
func samePrints(l []api.Reel) bool {
	if len(l) < 1 || len(l) > api.MaxPrints {
		return false
	}
	other := func(r api.Reel) bool { return r.Feet != l[0].Feet }
	return !slices.ContainsFunc(l, other)
}

// bounds returns the least and the greatest count of any truth.
func bounds(r api.Reel, count func(feet) int) (api.Span, api.Errno) {
	if e := Check(r); e != api.OK {
		return api.Span{}, e
	}
	l := truths(r)
	if len(l) == 0 {
		return api.Span{}, api.ErrNone
	}
	first := count(l[0])
	s := api.Span{Low: first, High: first}
	for _, there := range l[1:] {
		n := count(there)
		s.Low, s.High = min(s.Low, n), max(s.High, n)
	}
	return s, api.OK
}
