package keys

import (
	"slices"

	"bijou/api"
)

// valid tells whether a library is valid.
func valid(l api.Library) bool {
	return len(l.Assets) <= api.MaxAssets && validAssets(l.Assets) &&
		len(l.Comps) <= api.MaxComps && validComps(l.Comps, l.Assets) &&
		len(l.Screens) <= api.MaxServers && validScreens(l.Screens) &&
		len(l.Keys) <= api.MaxKeys && validKeys(l.Keys) &&
		len(l.Recalled) <= api.MaxKeys && validIds(l.Recalled)
}

// validAssets tells whether all assets, or files of a server, are valid.
func validAssets(l []api.Asset) bool {
	isNew := newIds()
	_, wrong := first(l, func(a api.Asset) bool {
		return !isNew(a.Id) || !isId(a.Id) || !isWithin(a.Sum, 0, api.MaxSum)
	})
	return !wrong
}

func validComps(l []api.Comp, assets []api.Asset) bool {
	isNew := newIds()
	_, wrong := first(l, func(c api.Comp) bool { return !isNew(c.Id) || !validComp(c, assets) })
	return !wrong
}

func validComp(c api.Comp, assets []api.Asset) bool {
	isStrange := func(id int) bool {
		_, ok := findAsset(assets, id)
		return !ok
	}
	return isId(c.Id) && isId(c.Film) &&
		isWithin(c.Tongue, 0, api.MaxTongue) && isWithin(c.Subs, 0, api.MaxTongue) &&
		isWithin(c.Minutes, 1, api.MaxLong) &&
		len(c.Assets) > 0 && ascendingIds(c.Assets) && !slices.ContainsFunc(c.Assets, isStrange)
}

func validScreens(l []api.Server) bool {
	isNew := newIds()
	_, wrong := first(l, func(s api.Server) bool { return !isNew(s.Id) || !validScreen(s) })
	return !wrong
}

func validScreen(s api.Server) bool {
	return isId(s.Id) &&
		isWithin(len(s.Devices), 1, api.MaxDevices) && ascendingIds(s.Devices) &&
		len(s.Files) <= api.MaxFiles && validAssets(s.Files)
}

func validKeys(l []api.Key) bool {
	return !slices.ContainsFunc(l, func(k api.Key) bool { return !validKey(k) })
}

func validKey(k api.Key) bool {
	return isId(k.Id) && isId(k.Comp) &&
		len(k.Devices) <= api.MaxTrusted && ascendingIds(k.Devices) &&
		isTime(k.From) && isTime(k.To) && k.From <= k.To
}

func validIds(l []int) bool {
	return !slices.ContainsFunc(l, func(id int) bool { return !isId(id) })
}

// ascendingIds tells whether all numbers are Ids in strictly ascending order.
func ascendingIds(l []int) bool {
	for i, id := range l {
		if !isId(id) || i > 0 && id <= l[i-1] {
			return false
		}
	}
	return true
}

// clash tells whether two keys with the same Id are not equal.
func clash(l []api.Key) bool {
	came := map[int]api.Key{}
	for _, k := range l {
		if other, ok := came[k.Id]; ok && !equal(k, other) {
			return true
		}
		came[k.Id] = k
	}
	return false
}

// equal tells whether two keys are equal.
func equal(a, b api.Key) bool {
	return a.Id == b.Id && a.Comp == b.Comp && a.From == b.From && a.To == b.To && slices.Equal(a.Devices, b.Devices)
}

func isId(n int) bool { return isWithin(n, 0, api.MaxId) }

func isTime(n int) bool { return isWithin(n, 0, api.MaxClock) }

func isWithin(n, low, high int) bool { return low <= n && n <= high }
