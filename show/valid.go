package show

import (
	"slices"

	"bijou/api"
)

const mostTowers = 2

// valid tells whether a show is valid, if its library and its reels are.
func valid(s api.Show) bool {
	return validBooth(s.Booth, s.Library) && len(s.Reels) <= api.MaxReels &&
		len(s.Items) <= api.MaxItems && validItems(s)
}

func validBooth(b api.Booth, l api.Library) bool {
	return isWithin(b.Platter, 0, api.MaxPlatter) && isWithin(b.Towers, 0, mostTowers) &&
		isLength(b.Thread, api.MaxThread) && (b.Screen == noScreen || findScreen(l, b.Screen) >= 0)
}

func validItems(s api.Show) bool {
	used := map[int]bool{}
	cannotUse := func(n int) bool {
		before := used[n]
		used[n] = true
		return before || !isWithin(n, 0, len(s.Reels)-1)
	}
	for _, item := range s.Items {
		if !validItem(item, s.Library) || slices.ContainsFunc(item.Reels, cannotUse) {
			return false
		}
	}
	return true
}

// validItem tells whether an item is valid, apart from which reels it has.
func validItem(item api.Item, l api.Library) bool {
	hasNoLength := item.Length == api.Span{}
	switch item.Kind {
	case api.Spots:
		return isLength(item.Length, api.MaxSpots) && len(item.Reels) == 0 && item.Comp == 0
	case api.Film:
		return hasNoLength && isWithin(len(item.Reels), 1, api.MaxReels) && item.Comp == 0
	case api.Pack:
		return hasNoLength && len(item.Reels) == 0 && findComp(l, item.Comp) >= 0
	}
	return false
}

// isLength tells whether a span is one of numbers of minutes up to a greatest one.
func isLength(s api.Span, most int) bool { return 0 <= s.Low && s.Low <= s.High && s.High <= most }

func isWithin(n, low, high int) bool { return low <= n && n <= high }
