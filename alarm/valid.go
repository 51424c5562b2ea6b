package alarm

import (
	"slices"

	"bijou/api"
)

func validBuilding(h api.Building) bool {
	isFaulty := func(p api.Passage) bool { return !validPassage(p, len(h.People)) }
	hasTooMany := func(people int) bool { return !isWithin(people, 0, api.MaxSouls) }
	return isWithin(len(h.People), 1, api.MaxChambers) && !slices.ContainsFunc(h.People, hasTooMany) &&
		len(h.Passages) <= api.MaxPassages && !slices.ContainsFunc(h.Passages, isFaulty)
}

// validPassage tells whether a passage is valid in a house with so many rooms.
func validPassage(p api.Passage, rooms int) bool {
	return isWithin(p.From, 0, rooms-1) && (p.To == api.Outside || isWithin(p.To, 0, rooms-1)) && p.From != p.To &&
		isWithin(p.Width, 0, api.MaxWidth) && isWithin(p.Walk, 1, api.MaxPace)
}

// checkMinute returns the first error of a house and a minute.
func checkMinute(h api.Building, minute int) api.Errno {
	switch {
	case !validBuilding(h):
		return api.ErrBuilding
	case !isWithin(minute, 0, api.MaxMinutes):
		return api.ErrArg
	}
	return api.OK
}

func isWithin(n, low, high int) bool { return low <= n && n <= high }
