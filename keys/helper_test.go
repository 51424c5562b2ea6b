package keys_test

import (
	"math/rand"
	"slices"

	"bijou/api"
	"bijou/keys"
)

// exampleL is the library of the chapter's examples.
func exampleL() api.Library {
	return api.Library{
		Assets: []api.Asset{{Id: 1, Sum: 11}, {Id: 2, Sum: 22}, {Id: 3, Sum: 33}},
		Comps: []api.Comp{
			{Id: 7, Film: 1, Tongue: 1, Minutes: 100, Locked: true, Assets: []int{1, 2}},
			{Id: 8, Film: 1, Tongue: 2, Subs: 1, Minutes: 100, Locked: true, Assets: []int{1, 3}},
			{Id: 9, Film: 2, Tongue: 1, Minutes: 20, Assets: []int{3}},
		},
		Screens: []api.Server{
			{Id: 1, Devices: []int{4, 5}, Files: []api.Asset{{Id: 1, Sum: 11}, {Id: 2, Sum: 22}, {Id: 3, Sum: 30}}},
			{Id: 2, Devices: []int{6}, Files: []api.Asset{{Id: 1, Sum: 11}, {Id: 3, Sum: 33}}},
		},
		Keys: []api.Key{
			newKey(1, 7, 100, 250, 4, 5),
			newKey(2, 7, 240, 400, 4, 5, 6),
			newKey(3, 8, 0, 999, 4),
		},
	}
}

func newKey(id, comp, from, to int, devices ...int) api.Key {
	return api.Key{Id: id, Comp: comp, From: from, To: to, Devices: devices}
}

// small has the locked composition 1 of so many minutes, the screen 1 with the devices 1 and 2, all files, and some keys.
func small(minutes int, l ...api.Key) api.Library {
	return api.Library{
		Assets:  []api.Asset{{Id: 5, Sum: 50}},
		Comps:   []api.Comp{{Id: 1, Minutes: minutes, Locked: true, Assets: []int{5}}},
		Screens: []api.Server{{Id: 1, Devices: []int{1, 2}, Files: []api.Asset{{Id: 5, Sum: 50}}}},
		Keys:    l,
	}
}

// window is a key for the library small.
func window(id, from, to int) api.Key { return newKey(id, 1, from, to, 1, 2) }

// full is a library that is at all limits.
func full() api.Library {
	var l api.Library
	for i := range api.MaxAssets {
		l.Assets = append(l.Assets, api.Asset{Id: api.MaxId - i, Sum: api.MaxSum * (i % 2)})
	}
	for i := range api.MaxComps {
		c := api.Comp{Id: api.MaxId - i, Film: api.MaxId, Tongue: api.MaxTongue, Subs: api.MaxTongue, Minutes: api.MaxLong, Locked: true}
		c.Assets = upFrom(api.MaxId-api.MaxAssets+1, api.MaxAssets)
		l.Comps = append(l.Comps, c)
	}
	for i := range api.MaxServers {
		s := api.Server{Id: api.MaxId - i, Devices: upFrom(api.MaxId-api.MaxDevices+1, api.MaxDevices)}
		for n := range api.MaxFiles {
			s.Files = append(s.Files, api.Asset{Id: n, Sum: api.MaxSum})
		}
		l.Screens = append(l.Screens, s)
	}
	for i := range api.MaxKeys {
		l.Keys = append(l.Keys, newKey(api.MaxId-i, api.MaxId, 0, api.MaxClock, upFrom(api.MaxId-api.MaxTrusted+1, api.MaxTrusted)...))
		l.Recalled = append(l.Recalled, api.MaxId)
	}
	return l
}

// upFrom returns n numbers from the first one on.
func upFrom(first, n int) []int {
	var l []int
	for i := range n {
		l = append(l, first+i)
	}
	return l
}

func clone(l api.Library) api.Library {
	l.Assets, l.Comps, l.Screens = slices.Clone(l.Assets), slices.Clone(l.Comps), slices.Clone(l.Screens)
	l.Keys, l.Recalled = slices.Clone(l.Keys), slices.Clone(l.Recalled)
	for i := range l.Comps {
		l.Comps[i].Assets = slices.Clone(l.Comps[i].Assets)
	}
	for i := range l.Screens {
		l.Screens[i].Devices, l.Screens[i].Files = slices.Clone(l.Screens[i].Devices), slices.Clone(l.Screens[i].Files)
	}
	for i := range l.Keys {
		l.Keys[i].Devices = slices.Clone(l.Keys[i].Devices)
	}
	return l
}

func sameKey(a, b api.Key) bool {
	return a.Id == b.Id && a.Comp == b.Comp && a.From == b.From && a.To == b.To && slices.Equal(a.Devices, b.Devices)
}

func sameComp(a, b api.Comp) bool {
	return a.Id == b.Id && a.Film == b.Film && a.Tongue == b.Tongue && a.Subs == b.Subs && a.Minutes == b.Minutes && a.Locked == b.Locked && slices.Equal(a.Assets, b.Assets)
}

func sameScreen(a, b api.Server) bool {
	return a.Id == b.Id && slices.Equal(a.Devices, b.Devices) && slices.Equal(a.Files, b.Files)
}

func sameLibrary(a, b api.Library) bool {
	return slices.Equal(a.Assets, b.Assets) && slices.EqualFunc(a.Comps, b.Comps, sameComp) &&
		slices.EqualFunc(a.Screens, b.Screens, sameScreen) && slices.EqualFunc(a.Keys, b.Keys, sameKey) && slices.Equal(a.Recalled, b.Recalled)
}

// with returns a copy of a library in which something was changed.
func with(l api.Library, change func(*api.Library)) api.Library {
	l = clone(l)
	change(&l)
	return l
}

func withKey(l api.Library, k api.Key) api.Library {
	return with(l, func(l *api.Library) { l.Keys = append(l.Keys, k) })
}

func withRecall(l api.Library, ids ...int) api.Library {
	return with(l, func(l *api.Library) { l.Recalled = append(l.Recalled, ids...) })
}

// The tests know when a composition can play from one truth value for each minute.

type minutes [api.MaxClock + 1 + api.MaxLong]bool

func keyOpens(l api.Library, k api.Key, c api.Comp, s api.Server) bool {
	if k.Comp != c.Id || slices.Contains(l.Recalled, k.Id) {
		return false
	}
	for _, d := range s.Devices {
		if !slices.Contains(k.Devices, d) {
			return false
		}
	}
	return true
}

func openMinutes(l api.Library, c api.Comp, s api.Server) *minutes {
	open := &minutes{}
	for m := range api.MaxClock + 1 {
		open[m] = !c.Locked
	}
	for _, k := range l.Keys {
		if c.Locked && keyOpens(l, k, c, s) {
			for m := k.From; m <= k.To; m++ {
				open[m] = true
			}
		}
	}
	return open
}

func missingFiles(l api.Library, c api.Comp, s api.Server) []int {
	var missing []int
	for _, a := range l.Assets {
		if slices.Contains(c.Assets, a.Id) && !slices.Contains(s.Files, a) {
			missing = append(missing, a.Id)
		}
	}
	slices.Sort(missing)
	return missing
}

// shutMinute is the first minute from one on that is not open, or -1 if there is none before the end of a composition.
func shutMinute(open *minutes, from, length int) int {
	for m := from; m < from+length; m++ {
		if !open[m] {
			return m
		}
	}
	return -1
}

// nextByTrying is the first minute from one to a last one from which on a composition can play, or -1 if there is none.
func nextByTrying(l api.Library, c api.Comp, s api.Server, open *minutes, from, last int) int {
	if len(missingFiles(l, c, s)) > 0 {
		return -1
	}
	for m := from; m <= last; m++ {
		if shutMinute(open, m, c.Minutes) < 0 {
			return m
		}
	}
	return -1
}

func whyByTrying(l api.Library, c api.Comp, s api.Server, open *minutes, from int) (reason, which int) {
	missing := missingFiles(l, c, s)
	shut := shutMinute(open, from, c.Minutes)
	if len(missing) > 0 {
		return api.NoFile, missing[0]
	}
	if shut < 0 {
		return api.NoLack, from + c.Minutes - 1
	}
	if !c.Locked {
		return api.Shut, shut
	}
	lowest, opens := api.Key{Id: -1}, false
	for _, k := range l.Keys {
		if k.Comp == c.Id && !slices.Contains(l.Recalled, k.Id) {
			opens = opens || keyOpens(l, k, c, s)
			if lowest.Id < 0 || k.Id < lowest.Id {
				lowest = k
			}
		}
	}
	if lowest.Id < 0 {
		return api.NoKey, -1
	}
	for _, d := range s.Devices {
		if !opens && !slices.Contains(lowest.Devices, d) {
			return api.Foreign, d
		}
	}
	return api.Shut, shut
}

// fewestByTrying takes all choices of keys, and returns the least number with which a composition still can play.
func fewestByTrying(l api.Library, c api.Comp, s api.Server, from int) int {
	least := -1
	for choice := range 1 << len(l.Keys) {
		kept := l
		kept.Keys = nil
		for i, k := range l.Keys {
			if choice>>i&1 == 1 {
				kept.Keys = append(kept.Keys, k)
			}
		}
		if n := len(kept.Keys); (least < 0 || n < least) && shutMinute(openMinutes(kept, c, s), from, c.Minutes) < 0 {
			least = n
		}
	}
	return least
}

// Random libraries are small, so that keys often fit, and come near the first or the last time.

func some(rnd *rand.Rand, l []int, odds int) []int {
	var chosen []int
	for _, n := range l {
		if rnd.Intn(odds) != 0 {
			chosen = append(chosen, n)
		}
	}
	return chosen
}

func someOf(rnd *rand.Rand, l []int, odds int) []int {
	for {
		if chosen := some(rnd, l, odds); len(chosen) > 0 {
			return chosen
		}
	}
}

func randomKey(rnd *rand.Rand, id, base int) api.Key {
	from := base + rnd.Intn(20)
	return newKey(id, rnd.Intn(4), from, min(api.MaxClock, from+rnd.Intn(12)), some(rnd, []int{0, 1, 2}, 5)...)
}

func randomLibrary(rnd *rand.Rand, base, keyCount int) api.Library {
	var l api.Library
	ids := rnd.Perm(6)[:1+rnd.Intn(4)]
	for _, id := range ids {
		l.Assets = append(l.Assets, api.Asset{Id: id, Sum: rnd.Intn(3)})
	}
	slices.Sort(ids)
	for _, id := range rnd.Perm(4)[:1+rnd.Intn(4)] {
		l.Comps = append(l.Comps, api.Comp{Id: id, Film: rnd.Intn(2), Tongue: rnd.Intn(3), Subs: rnd.Intn(2), Minutes: 1 + rnd.Intn(14), Locked: rnd.Intn(5) != 0, Assets: someOf(rnd, ids, 2)})
	}
	for _, id := range rnd.Perm(4)[:1+rnd.Intn(3)] {
		s := api.Server{Id: id, Devices: someOf(rnd, []int{0, 1, 2}, 2)}
		for _, a := range l.Assets {
			if rnd.Intn(12) != 0 {
				a.Sum += max(0, rnd.Intn(12)-10)
				s.Files = append(s.Files, a)
			}
		}
		l.Screens = append(l.Screens, s)
	}
	for _, id := range rnd.Perm(10)[:keyCount] {
		l.Keys = append(l.Keys, randomKey(rnd, id, base))
	}
	for range rnd.Intn(3) {
		l.Recalled = append(l.Recalled, rnd.Intn(10))
	}
	return l
}

// randomBase is the first minute of random keys.
func randomBase(rnd *rand.Rand) int { return []int{0, 500, api.MaxClock - 25}[rnd.Intn(3)] }

// shuffle puts all that has no order of its own in another order, and lets some keys and recalls come twice.
func shuffle(rnd *rand.Rand, l api.Library) api.Library {
	l = clone(l)
	for _, k := range l.Keys {
		if rnd.Intn(3) == 0 {
			k.Devices = slices.Clone(k.Devices)
			l.Keys = append(l.Keys, k)
		}
	}
	for _, id := range l.Recalled {
		if rnd.Intn(3) == 0 {
			l.Recalled = append(l.Recalled, id)
		}
	}
	rnd.Shuffle(len(l.Assets), func(i, j int) { l.Assets[i], l.Assets[j] = l.Assets[j], l.Assets[i] })
	rnd.Shuffle(len(l.Comps), func(i, j int) { l.Comps[i], l.Comps[j] = l.Comps[j], l.Comps[i] })
	rnd.Shuffle(len(l.Screens), func(i, j int) { l.Screens[i], l.Screens[j] = l.Screens[j], l.Screens[i] })
	rnd.Shuffle(len(l.Keys), func(i, j int) { l.Keys[i], l.Keys[j] = l.Keys[j], l.Keys[i] })
	rnd.Shuffle(len(l.Recalled), func(i, j int) { l.Recalled[i], l.Recalled[j] = l.Recalled[j], l.Recalled[i] })
	for _, s := range l.Screens {
		rnd.Shuffle(len(s.Files), func(i, j int) { s.Files[i], s.Files[j] = s.Files[j], s.Files[i] })
	}
	return l
}

// canPlay tells what Why says.
func canPlay(l api.Library, comp, screen, from int) bool {
	reason, _, e := keys.Why(l, comp, screen, from)
	return reason == api.NoLack && e == api.OK
}

// times are some minutes about those of random keys. The last of them is behind all keys, or the last time.
func times(base int) []int {
	first := max(0, base-15)
	return upFrom(first, min(api.MaxClock, base+35)-first+1)
}

// eachPair calls a function with each composition on each screen.
func eachPair(l api.Library, do func(c api.Comp, s api.Server)) {
	for _, c := range l.Comps {
		for _, s := range l.Screens {
			do(c, s)
		}
	}
}

func within(s api.Span, n int) bool { return s.Low <= n && n <= s.High }
