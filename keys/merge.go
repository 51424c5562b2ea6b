package keys

import (
	"cmp"
	"slices"

	"bijou/api"
)

// withKeys returns a library with other keys and recalls.
func withKeys(l api.Library, keys []api.Key, recalled []int) api.Library {
	l.Keys, l.Recalled = keys, recalled
	return l
}

// eachKeyOnce returns all keys, equal ones once, ordered by Id. Two keys that clash are both there.
func eachKeyOnce(l []api.Key) []api.Key {
	var once []api.Key
	for _, k := range l {
		same := func(other api.Key) bool { return equal(k, other) }
		if !slices.ContainsFunc(once, same) {
			once = append(once, k)
		}
	}
	slices.SortFunc(once, func(a, b api.Key) int { return cmp.Compare(a.Id, b.Id) })
	return once
}

// eachIdOnce returns all Ids once, in ascending order.
func eachIdOnce(l []int) []int {
	isNew := newIds()
	var once []int
	for _, id := range l {
		if isNew(id) {
			once = append(once, id)
		}
	}
	slices.Sort(once)
	return once
}

// copyLibrary returns an equal library that shares no memory with the given one.
func copyLibrary(l api.Library) api.Library {
	l.Assets = slices.Clone(l.Assets)
	l.Comps = slices.Clone(l.Comps)
	for i := range l.Comps {
		l.Comps[i].Assets = slices.Clone(l.Comps[i].Assets)
	}
	l.Screens = slices.Clone(l.Screens)
	for i := range l.Screens {
		l.Screens[i].Devices = slices.Clone(l.Screens[i].Devices)
		l.Screens[i].Files = slices.Clone(l.Screens[i].Files)
	}
	l.Keys = slices.Clone(l.Keys)
	for i := range l.Keys {
		l.Keys[i].Devices = slices.Clone(l.Keys[i].Devices)
	}
	l.Recalled = slices.Clone(l.Recalled)
	return l
}
