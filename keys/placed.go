package keys

import (
	"cmp"
	"slices"

	"bijou/api"
)

// placed is a composition on a screen: the assets that the screen's server does not have as they are, the keys of the composition that are not recalled, those of them that open it there, and the minutes that are open.
type placed struct {
	api.Comp
	devices []int
	missing []int
	keys    []api.Key
	opening []api.Key
	open    []api.Span
}

func place(l api.Library, c api.Comp, s api.Server) placed {
	p := placed{Comp: c, devices: s.Devices}
	p.missing = missing(l.Assets, c.Assets, s.Files)
	for _, k := range l.Keys {
		if k.Comp == c.Id && !slices.Contains(l.Recalled, k.Id) {
			p.keys = append(p.keys, k)
		}
	}
	for _, k := range p.keys {
		if _, foreign := p.foreign(k); !foreign {
			p.opening = append(p.opening, k)
		}
	}
	p.open = p.openMinutes()
	return p
}

// missing returns the wanted assets that are not among the files with their Sum.
func missing(assets []api.Asset, wanted []int, files []api.Asset) []int {
	var l []int
	for _, id := range wanted {
		a, _ := findAsset(assets, id)
		if !slices.Contains(files, a) {
			l = append(l, id)
		}
	}
	return l
}

// foreign returns the least device of the screen that a key does not trust, and whether there is one.
func (p placed) foreign(k api.Key) (int, bool) {
	return first(p.devices, func(d int) bool { return !slices.Contains(k.Devices, d) })
}

// openMinutes returns the minutes that are open, as spans that do not touch.
func (p placed) openMinutes() []api.Span {
	if !p.Locked {
		return []api.Span{{Low: 0, High: api.MaxClock}}
	}
	byFrom := func(a, b api.Key) int { return cmp.Compare(a.From, b.From) }
	var l []api.Span
	for _, k := range slices.SortedFunc(slices.Values(p.opening), byFrom) {
		last := len(l) - 1
		if last >= 0 && k.From <= l[last].High+1 {
			l[last].High = max(l[last].High, k.To)
		} else {
			l = append(l, api.Span{Low: k.From, High: k.To})
		}
	}
	return l
}

// shut returns the first minute from the given one on that is not open.
func (p placed) shut(from int) int {
	s, ok := first(p.open, func(s api.Span) bool { return isWithin(from, s.Low, s.High) })
	if !ok {
		return from
	}
	return s.High + 1
}

func (p placed) canPlay(from int) bool {
	return len(p.missing) == 0 && from+p.Minutes <= p.shut(from)
}

func (p placed) why(from int) (reason, which int) {
	switch {
	case p.canPlay(from):
		return api.NoLack, from + p.Minutes - 1
	case len(p.missing) > 0:
		return api.NoFile, p.missing[0]
	case p.Locked && len(p.keys) == 0:
		return api.NoKey, -1
	case p.Locked && len(p.opening) == 0:
		byId := func(a, b api.Key) int { return cmp.Compare(a.Id, b.Id) }
		device, _ := p.foreign(slices.MinFunc(p.keys, byId))
		return api.Foreign, device
	}
	return api.Shut, p.shut(from)
}

// fewest returns the least number of keys by which all minutes are open of the composition, which can play from a minute on.
func (p placed) fewest(from int) int {
	if !p.Locked {
		return 0
	}
	n := 0
	// Of all keys that open the first minute without one, that which lasts longest never makes more keys necessary than another one.
	for next := from; next < from+p.Minutes; n++ {
		next = p.lastTo(next) + 1
	}
	return n
}

// lastTo returns the last minute of a key that opens a minute, which at least one does.
func (p placed) lastTo(minute int) int {
	last := minute
	for _, k := range p.opening {
		if k.From <= minute {
			last = max(last, k.To)
		}
	}
	return last
}
