package show

import (
	"slices"

	"bijou/api"
	"bijou/keys"
)

// noScreen is the Screen of a booth that has none.
const noScreen = -1

// pack returns a package, with the minutes from which on it can play.
func (o opened) pack(item api.Item) part {
	minutes := o.Library.Comps[findComp(o.Library, item.Comp)].Minutes
	p := part{Item: item, takes: exactly(minutes)}
	if o.Booth.Screen == noScreen {
		p.lack = api.Lack{Reason: api.NoServer, Which: -1}
		return p
	}
	missing, _ := keys.Missing(o.Library, item.Comp, o.Booth.Screen)
	if len(missing) > 0 {
		return p
	}
	spans, _ := keys.Open(o.Library, item.Comp, o.Booth.Screen)
	for _, s := range spans {
		if last := s.High - minutes + 1; last >= s.Low {
			p.plays = append(p.plays, api.Span{Low: s.Low, High: last})
		}
	}
	return p
}

// firstShut returns the first minute from the given one on from which on the package cannot play.
func (p part) firstShut(minute int) int {
	for _, s := range p.plays {
		if isWithin(minute, s.Low, s.High) {
			// The spans of open minutes do not touch, so just behind one the next has not begun.
			return s.High + 1
		}
	}
	return minute
}

// findComp returns the place of a composition in a library, -1 if it is not there.
func findComp(l api.Library, id int) int {
	return slices.IndexFunc(l.Comps, func(c api.Comp) bool { return c.Id == id })
}

// findScreen returns the place of a screen in a library, -1 if it is not there.
func findScreen(l api.Library, id int) int {
	return slices.IndexFunc(l.Screens, func(s api.Server) bool { return s.Id == id })
}
