package show_test

import (
	"math/rand"
	"slices"

	"bijou/api"
	"bijou/keys"
	"bijou/reel"
	"bijou/show"
)

func span(low, high int) api.Span { return api.Span{Low: low, High: high} }

func at(n int) api.Span { return span(n, n) }

func within(s api.Span, n int) bool { return s.Low <= n && n <= s.High }

func torn(from, to, low, high int) api.Mark {
	return api.Mark{Kind: api.Torn, From: from, To: to, Count: span(low, high)}
}

func gone(n int) api.Mark { return api.Mark{Kind: api.Gone, From: n, To: n} }

func seen(n int) api.Mark { return api.Mark{Kind: api.Seen, From: n, To: n} }

func newReel(length int, marks ...api.Mark) api.Reel { return api.Reel{Feet: length, Marks: marks} }

// wrongReel contradicts itself: a foot is gone, but nothing was torn out.
func wrongReel() api.Reel { return newReel(3, gone(1)) }

func spots(low, high int) api.Item { return api.Item{Kind: api.Spots, Length: span(low, high)} }

func film(reels ...int) api.Item { return api.Item{Kind: api.Film, Reels: reels} }

func pack(comp int) api.Item { return api.Item{Kind: api.Pack, Comp: comp} }

func newKey(id, comp, from, to int, devices ...int) api.Key {
	return api.Key{Id: id, Comp: comp, From: from, To: to, Devices: devices}
}

// exampleS, exampleT and exampleP are the shows of the chapter's examples.
func exampleS() api.Show {
	return api.Show{
		Booth: api.Booth{Towers: 2, Thread: span(2, 3), Screen: 1},
		Reels: []api.Reel{newReel(8, torn(2, 4, 1, 2)), newReel(6), newReel(5)},
		Library: api.Library{
			Assets:  []api.Asset{{Id: 1, Sum: 9}},
			Comps:   []api.Comp{{Id: 7, Minutes: 5, Locked: true, Assets: []int{1}}},
			Screens: []api.Server{{Id: 1, Devices: []int{1}, Files: []api.Asset{{Id: 1, Sum: 9}}}},
			Keys:    []api.Key{newKey(1, 7, 25, 40, 1)},
		},
		Items: []api.Item{spots(3, 4), film(0, 1, 2), pack(7)},
	}
}

func exampleT() api.Show { return with(exampleS(), func(s *api.Show) { s.Booth.Towers = 1 }) }
func exampleP() api.Show { return with(exampleS(), func(s *api.Show) { s.Booth.Platter = 18 }) }

// noItems is a show of nothing, in a booth without anything.
func noItems() api.Show { return api.Show{Booth: api.Booth{Screen: -1}} }

// onTowers is a show of one film on so many towers, of all reels in their order.
func onTowers(towers int, thread api.Span, reels ...api.Reel) api.Show {
	return api.Show{
		Booth: api.Booth{Towers: towers, Thread: thread, Screen: -1},
		Reels: reels,
		Items: []api.Item{film(upTo(len(reels))...)},
	}
}

// full is a show that is at all limits.
func full() api.Show {
	s := api.Show{
		Booth:   api.Booth{Platter: api.MaxPlatter, Towers: 2, Thread: span(0, api.MaxThread), Screen: 1},
		Library: exampleS().Library,
		Items:   []api.Item{film(5, 3, 1, 0, 2, 4), spots(0, 0), spots(0, api.MaxSpots), spots(api.MaxSpots, api.MaxSpots), pack(7), pack(7)},
	}
	for range api.MaxReels {
		s.Reels = append(s.Reels, newReel(api.MaxFeet, slices.Repeat([]api.Mark{torn(0, 15, 0, 16)}, api.MaxMarks)...))
	}
	return s
}

func upTo(n int) []int {
	var l []int
	for i := range n {
		l = append(l, i)
	}
	return l
}

// with returns a copy of a show in which something was changed.
func with(s api.Show, change func(*api.Show)) api.Show {
	s = clone(s)
	change(&s)
	return s
}

func clone(s api.Show) api.Show {
	s.Reels, s.Items = slices.Clone(s.Reels), slices.Clone(s.Items)
	for i := range s.Reels {
		s.Reels[i].Marks = slices.Clone(s.Reels[i].Marks)
	}
	for i := range s.Items {
		s.Items[i].Reels = slices.Clone(s.Items[i].Reels)
	}
	s.Library = cloneLibrary(s.Library)
	return s
}

func cloneLibrary(l api.Library) api.Library {
	l.Assets, l.Comps, l.Screens = slices.Clone(l.Assets), slices.Clone(l.Comps), slices.Clone(l.Screens)
	l.Keys, l.Recalled = slices.Clone(l.Keys), slices.Clone(l.Recalled)
	for i := range l.Comps {
		l.Comps[i].Assets = slices.Clone(l.Comps[i].Assets)
	}
	for i := range l.Screens {
		l.Screens[i].Devices, l.Screens[i].Files = slices.Clone(l.Screens[i].Devices), slices.Clone(l.Screens[i].Files)
	}
	for i := range l.Keys {
		l.Keys[i].Devices = slices.Clone(l.Keys[i].Devices)
	}
	return l
}

// ordered returns a show with its items in another order.
func ordered(s api.Show, order []int) api.Show {
	return with(s, func(now *api.Show) {
		for i, n := range order {
			now.Items[i] = s.Items[n]
		}
	})
}

// permutations returns all orders of some numbers from 0, in the order in which they are compared number by number.
func permutations(n int) [][]int {
	all := [][]int{nil}
	for range n {
		var longer [][]int
		for _, p := range all {
			for i := range n {
				if !slices.Contains(p, i) {
					longer = append(longer, append(slices.Clone(p), i))
				}
			}
		}
		all = longer
	}
	return all
}

// The tests know the times of a film from all evenings that can be: in each of them each reel and each threading takes some number of minutes.

// choices returns all ways to choose a number of each span.
func choices(l []api.Span) [][]int {
	all := [][]int{nil}
	for _, s := range l {
		var longer [][]int
		for _, c := range all {
			for n := s.Low; n <= s.High; n++ {
				longer = append(longer, append(slices.Clone(c), n))
			}
		}
		all = longer
	}
	return all
}

// evening returns when the reels of a film begin on so many towers (0: on the platter), and when it ends.
func evening(towers int, lengths, threads []int) (begins []int, end int) {
	ends := make([]int, len(lengths))
	for i := range lengths {
		begin := 0
		if i > 0 {
			begin = ends[i-1]
		}
		if towers == 1 && i > 0 {
			begin = ends[i-1] + threads[i]
		}
		if towers == 2 && i > 1 && ends[i-2]+threads[i] > begin {
			begin = ends[i-2] + threads[i]
		}
		begins = append(begins, begin)
		ends[i] = begin + lengths[i]
	}
	return begins, ends[len(ends)-1]
}

// known is what is to be known of an item.
type known struct {
	lack   api.Lack
	begins []api.Span
	takes  api.Span
}

// way is where a film is run: on so many towers (0: on the platter), or nowhere.
func way(b api.Booth, lengths []api.Span) (towers int, ok bool) {
	most := 0
	for _, l := range lengths {
		most += l.High
	}
	if b.Platter > 0 && most <= b.Platter {
		return 0, true
	}
	return b.Towers, b.Towers > 0
}

func filmByTrying(s api.Show, item api.Item) known {
	var lengths []api.Span
	for _, n := range item.Reels {
		left, e := reel.Left(s.Reels[n])
		if e == api.ErrNone {
			return known{lack: api.Lack{Reason: api.NoPrint, Which: n}}
		}
		lengths = append(lengths, left)
	}
	towers, ok := way(s.Booth, lengths)
	if !ok {
		return known{lack: api.Lack{Reason: api.NoPlace, Which: -1}}
	}
	k, pause := eachEvening(towers, lengths, s.Booth.Thread)
	if pause < len(lengths) {
		k.lack = api.Lack{Reason: api.Pause, Which: item.Reels[pause]}
	}
	for i := len(lengths) - 2; i >= 0 && towers > 0; i-- {
		n := item.Reels[i]
		if foot, _ := reel.Foot(s.Reels[n], s.Reels[n].Feet-1); foot != api.Here {
			k.lack = api.Lack{Reason: api.NoCue, Which: n}
		}
	}
	return k
}

// eachEvening returns the times of a film by all evenings, and the first of its reels before which there can be a pause (as many as there are if none).
func eachEvening(towers int, lengths []api.Span, thread api.Span) (k known, pause int) {
	pause = len(lengths)
	k.begins, k.takes = slices.Repeat([]api.Span{span(9999, 0)}, len(lengths)), span(9999, 0)
	widen := func(s *api.Span, n int) { s.Low, s.High = min(s.Low, n), max(s.High, n) }
	threads := choices(slices.Repeat([]api.Span{thread}, len(lengths)))
	if towers == 0 {
		threads = threads[:1]
	}
	for _, l := range choices(lengths) {
		for _, t := range threads {
			begins, end := evening(towers, l, t)
			for i, begin := range begins {
				widen(&k.begins[i], begin)
				if i > 0 && begin > begins[i-1]+l[i-1] {
					pause = min(pause, i)
				}
			}
			widen(&k.takes, end)
		}
	}
	return k, pause
}

func itemByTrying(s api.Show, item api.Item) known {
	switch item.Kind {
	case api.Film:
		return filmByTrying(s, item)
	case api.Pack:
		i := slices.IndexFunc(s.Library.Comps, func(c api.Comp) bool { return c.Id == item.Comp })
		return known{takes: at(s.Library.Comps[i].Minutes)}
	}
	return known{takes: item.Length}
}

func itemsByTrying(s api.Show) []known {
	var l []known
	for _, item := range s.Items {
		l = append(l, itemByTrying(s, item))
	}
	return l
}

func cannotRun(k known) bool { return k.lack.Reason == api.NoPrint || k.lack.Reason == api.NoPlace }

// timesByTrying returns when items begin, and the last of them ends.
func timesByTrying(l []known, from int) (begins []api.Span, end api.Span) {
	end = at(from)
	for _, k := range l {
		begins = append(begins, end)
		end = span(end.Low+k.takes.Low, end.High+k.takes.High)
	}
	return begins, end
}

// lacksByTrying asks of each package for each minute at which it can begin.
func lacksByTrying(s api.Show, l []known, from int) []api.Lack {
	var lacks []api.Lack
	begins, _ := timesByTrying(l, from)
	for i, k := range l {
		lack := k.lack
		if s.Items[i].Kind == api.Pack {
			lack = packByTrying(s, s.Items[i].Comp, begins[i])
		}
		if lack.Reason != 0 {
			lack.Item = i
			lacks = append(lacks, lack)
		}
	}
	return lacks
}

func packByTrying(s api.Show, comp int, begin api.Span) api.Lack {
	if s.Booth.Screen == -1 {
		return api.Lack{Reason: api.NoServer, Which: -1}
	}
	for minute := begin.Low; minute <= begin.High; minute++ {
		if !canPlay(s, comp, minute) {
			return api.Lack{Reason: api.NoPack, Which: minute}
		}
	}
	return api.Lack{}
}

func canPlay(s api.Show, comp, minute int) bool {
	reason, _, e := keys.Why(s.Library, comp, s.Booth.Screen, minute)
	return reason == api.NoLack && e == api.OK
}

// Random shows are small, so that all evenings can be tried, and often nothing lacks of their items.

func randomSpan(rnd *rand.Rand, most, width int) api.Span {
	low := rnd.Intn(most + 1)
	return span(low, min(most, low+rnd.Intn(width+1)))
}

func randomTear(rnd *rand.Rand, length int) api.Mark {
	from := rnd.Intn(length)
	to := min(length-1, from+rnd.Intn(3))
	return api.Mark{Kind: api.Torn, From: from, To: to, Count: randomSpan(rnd, to-from+1, 1)}
}

func randomReel(rnd *rand.Rand, feet int) api.Reel {
	r := newReel(1 + rnd.Intn(feet))
	for range rnd.Intn(3) {
		r.Marks = append(r.Marks, randomTear(rnd, r.Feet))
	}
	switch rnd.Intn(12) {
	case 0:
		r.Marks = append(r.Marks, gone(rnd.Intn(r.Feet)))
	case 1, 2, 3, 4, 5:
		r.Marks = append(r.Marks, seen(r.Feet-1))
	}
	return r
}

// randomLibrary has a composition 1 that is not locked, and locked ones with keys for some minutes from base on.
func randomLibrary(rnd *rand.Rand, base int) api.Library {
	l := api.Library{
		Assets:  []api.Asset{{Id: 3, Sum: 1}},
		Comps:   []api.Comp{{Id: 1, Minutes: 1 + rnd.Intn(6), Assets: []int{3}}},
		Screens: []api.Server{{Id: 4, Devices: []int{1}, Files: []api.Asset{{Id: 3, Sum: 1}}}, {Id: 0, Devices: []int{1, 2}, Files: []api.Asset{{Id: 3, Sum: 1}}}},
	}
	for id := 2; id <= 4; id++ {
		l.Comps = append(l.Comps, api.Comp{Id: id, Minutes: 1 + rnd.Intn(6), Locked: true, Assets: []int{3}})
		l.Keys = append(l.Keys, randomKey(rnd, 2*id, base), randomKey(rnd, 2*id+1, base))
	}
	if rnd.Intn(15) == 0 {
		l.Screens[1].Files = nil
	}
	return l
}

// randomKey is one for a composition of half its Id.
func randomKey(rnd *rand.Rand, id, base int) api.Key {
	from := base + rnd.Intn(25)
	return newKey(id, id/2, min(from, api.MaxClock), min(from+rnd.Intn(40), api.MaxClock), []int{1, 2}[:1+min(1, rnd.Intn(6))]...)
}

func randomBooth(rnd *rand.Rand, most int) api.Booth {
	b := api.Booth{Towers: []int{0, 1, 2, 2, 2, 2}[rnd.Intn(6)], Thread: randomSpan(rnd, most, 2), Screen: []int{0, 0, 4, 4, 4, -1}[rnd.Intn(6)]}
	if rnd.Intn(2) == 0 {
		b.Platter = 1 + rnd.Intn(16)
	}
	return b
}

// randomItems are some items that have together at most all reels, and no film more than so many.
func randomItems(rnd *rand.Rand, reels, longest int) []api.Item {
	var l []api.Item
	free := rnd.Perm(reels)
	for range rnd.Intn(6) {
		n := min(len(free), 1+rnd.Intn(longest))
		switch kind := rnd.Intn(5); {
		case kind < 2 && n > 0:
			l = append(l, film(free[:n]...))
			free = free[n:]
		case kind < 3:
			l = append(l, api.Item{Kind: api.Spots, Length: randomSpan(rnd, 6, 3)})
		default:
			l = append(l, pack(1+rnd.Intn(4)))
		}
	}
	return l
}

func randomShow(rnd *rand.Rand, base int) api.Show {
	s := api.Show{Booth: randomBooth(rnd, 4), Library: randomLibrary(rnd, base)}
	for range rnd.Intn(7) {
		s.Reels = append(s.Reels, randomReel(rnd, 5))
	}
	s.Items = randomItems(rnd, len(s.Reels), 4)
	return s
}

// largeShow is one with more feet, longer threading, and longer films, too large to try all evenings.
func largeShow(rnd *rand.Rand, base int) api.Show {
	s := randomShow(rnd, base)
	s.Booth.Thread, s.Booth.Platter = randomSpan(rnd, 8, 5), s.Booth.Platter*2
	for i := range s.Reels {
		s.Reels[i] = randomReel(rnd, api.MaxFeet)
	}
	s.Items = randomItems(rnd, len(s.Reels), 6)
	return s
}

// anyShow is a small or a large one.
func anyShow(rnd *rand.Rand, base int) api.Show {
	if rnd.Intn(2) == 0 {
		return randomShow(rnd, base)
	}
	return largeShow(rnd, base)
}

// randomBase is the first minute of random keys: the first one at all, or one that is near the last one, or neither.
func randomBase(rnd *rand.Rand) int { return []int{0, 500, 500, api.MaxClock - 35}[rnd.Intn(4)] }

// randomStart is a minute near the random keys.
func randomStart(rnd *rand.Rand, base int) int {
	return min(api.MaxClock, max(0, base-10+rnd.Intn(45)))
}

// lackOf returns the lack of an item, which has the Reason 0 if nothing lacks.
func lackOf(lacks []api.Lack, item int) api.Lack {
	for _, l := range lacks {
		if l.Item == item {
			return l
		}
	}
	return api.Lack{}
}

func nothingLacks(s api.Show, from int) bool {
	lacks, e := show.Lacks(s, from)
	return len(lacks) == 0 && e == api.OK
}
