package show

import (
	"slices"

	"bijou/api"
)

// opened is a valid show, and what is known of each of its items.
type opened struct {
	api.Show
	parts []part
}

// part is an item of a show, the minutes that it takes, and what lacks of it whenever it begins; of a film also when each reel can begin, of a package from which minutes on it can play.
type part struct {
	api.Item
	takes  api.Span
	lack   api.Lack
	begins []api.Span
	plays  []api.Span
}

// open returns a show for a call with some minutes, or the error of the call.
func open(s api.Show, minutes ...int) (opened, api.Errno) {
	if e := Check(s); e != api.OK {
		return opened{}, e
	}
	isNoTime := func(n int) bool { return !isWithin(n, 0, api.MaxClock) }
	if slices.ContainsFunc(minutes, isNoTime) {
		return opened{}, api.ErrArg
	}
	o := opened{Show: s}
	for _, item := range s.Items {
		o.parts = append(o.parts, o.part(item))
	}
	return o, api.OK
}

func (o opened) part(item api.Item) part {
	switch item.Kind {
	case api.Film:
		return o.film(item)
	case api.Pack:
		return o.pack(item)
	}
	return part{Item: item, takes: item.Length}
}

// times returns when each item can begin, and the show can end. A film that cannot run takes no time.
func (o opened) times(from int) (begins []api.Span, end api.Span) {
	end = exactly(from)
	for _, p := range o.parts {
		begins = append(begins, end)
		end = sum(end, p.takes)
	}
	return begins, end
}

// lacks returns what lacks of the items if the show begins at a minute.
func (o opened) lacks(from int) []api.Lack {
	var l []api.Lack
	begins, _ := o.times(from)
	for i, p := range o.parts {
		if lack := p.lackAt(begins[i]); lack != noLack() {
			lack.Item = i
			l = append(l, lack)
		}
	}
	return l
}

// complete returns the first order of all items that starts with the given ones, which end at some minute of a span, and in which nothing lacks of the others; and whether there is one.
func (o opened) complete(start []int, end api.Span) ([]int, bool) {
	if len(start) == len(o.parts) {
		return start, true
	}
	for i, p := range o.parts {
		if slices.Contains(start, i) || p.lackAt(end) != noLack() {
			continue
		}
		if order, ok := o.complete(append(start, i), sum(end, p.takes)); ok {
			return order, true
		}
	}
	return nil, false
}

// noLack is what lacks if nothing does.
func noLack() api.Lack { return api.Lack{} }

// cannotRun tells whether the item is a film that has a reel without a truth, or no place.
func (p part) cannotRun() bool {
	return p.lack.Reason == api.NoPrint || p.lack.Reason == api.NoPlace
}

// lackAt returns what lacks of the item if it can begin at each minute of a span.
func (p part) lackAt(begin api.Span) api.Lack {
	if p.Kind != api.Pack || p.lack != noLack() {
		return p.lack
	}
	shut := p.firstShut(begin.Low)
	if shut > begin.High {
		return noLack()
	}
	return api.Lack{Reason: api.NoPack, Which: shut}
}

func exactly(n int) api.Span { return api.Span{Low: n, High: n} }

func sum(a, b api.Span) api.Span { return api.Span{Low: a.Low + b.Low, High: a.High + b.High} }
