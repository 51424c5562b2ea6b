package show

import (
	"bijou/api"
	"bijou/reel"
)

// film returns a film, with what lacks of it.
func (o opened) film(item api.Item) part {
	p := part{Item: item}
	var lengths []api.Span
	for _, n := range item.Reels {
		left, e := reel.Left(o.Reels[n])
		if e != api.OK {
			p.lack = api.Lack{Reason: api.NoPrint, Which: n}
			return p
		}
		lengths = append(lengths, left)
	}
	switch {
	case o.fitsPlatter(lengths):
		// The platter is like a projector for each reel: none waits for its threading.
		p.begins, p.takes = bounds(lengths, len(lengths), o.Booth.Thread)
	case o.Booth.Towers > 0:
		p.begins, p.takes = bounds(lengths, o.Booth.Towers, o.Booth.Thread)
		p.lack = o.lackOnTowers(item.Reels, lengths)
	default:
		p.lack = api.Lack{Reason: api.NoPlace, Which: -1}
	}
	return p
}

// fitsPlatter tells whether there is a platter that surely holds reels of these lengths.
func (o opened) fitsPlatter(lengths []api.Span) bool {
	most := 0
	for _, l := range lengths {
		most += l.High
	}
	return o.Booth.Platter > 0 && most <= o.Booth.Platter
}

// bounds returns when each reel of a film can begin, and how long the film can take.
func bounds(lengths []api.Span, projectors int, thread api.Span) (begins []api.Span, takes api.Span) {
	// Nothing begins earlier because something else takes longer, so the bounds of all minutes give those of the times.
	early, earlyEnds := run(lengths, low, projectors, thread.Low)
	late, lateEnds := run(lengths, high, projectors, thread.High)
	for i := range lengths {
		begins = append(begins, api.Span{Low: early[i], High: late[i]})
		takes = api.Span{Low: earlyEnds[i], High: lateEnds[i]}
	}
	return begins, takes
}

// lackOnTowers returns what lacks of a film of these reels if it is run from the towers.
func (o opened) lackOnTowers(reels []int, lengths []api.Span) api.Lack {
	for _, n := range reels[:len(reels)-1] {
		if !o.hasCue(n) {
			return api.Lack{Reason: api.NoCue, Which: n}
		}
	}
	// The first pause that can be comes with the shortest reels and the longest threading: only a pause before it could make it shorter.
	begins, ends := run(lengths, low, o.Booth.Towers, o.Booth.Thread.High)
	for i, n := range reels[1:] {
		if begins[i+1] > ends[i] {
			return api.Lack{Reason: api.Pause, Which: n}
		}
	}
	return noLack()
}

// hasCue tells whether the last foot of a reel is surely there.
func (o opened) hasCue(n int) bool {
	r := o.Reels[n]
	foot, _ := reel.Foot(r, r.Feet-1)
	return foot == api.Here
}

// run returns when each reel begins and ends, if each takes the minutes that a function chooses from its span, and each threading as many as thread says.
func run(lengths []api.Span, choose func(api.Span) int, projectors, thread int) (begins, ends []int) {
	end := 0
	for i, l := range lengths {
		begin := end
		// A reel is threaded on the projector of the reel that is as many before it as there are projectors; the first ones are threaded already.
		if i >= projectors {
			begin = max(begin, ends[i-projectors]+thread)
		}
		end = begin + choose(l)
		begins, ends = append(begins, begin), append(ends, end)
	}
	return begins, ends
}

func low(s api.Span) int { return s.Low }

func high(s api.Span) int { return s.High }
