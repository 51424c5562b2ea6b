package promise

import (
	"slices"

	"bijou/api"
)

// lastSpot is the greatest number of a spot.
const lastSpot = 99

func validCampaign(c api.Campaign) bool {
	return len(c.Showings) <= api.MaxShowings && !slices.ContainsFunc(c.Showings, isFaulty) && validPromises(c.Promises)
}

// isFaulty tells whether a showing is not as described.
func isFaulty(s api.Showing) bool {
	return !isWithin(s.Day, 0, api.MaxDate) || !isWithin(s.Kind, 0, api.MaxKind) || !isWithin(s.Room, 0, api.MaxRoom)
}

func validPromises(l []api.Promise) bool {
	if len(l) > api.MaxPromises {
		return false
	}
	for n, p := range l {
		sameSpot := func(other api.Promise) bool { return other.Spot == p.Spot }
		if !canBePromise(p) || slices.ContainsFunc(l[:n], sameSpot) {
			return false
		}
	}
	return true
}

// canBePromise tells whether a promise is as described, whatever others there are.
func canBePromise(p api.Promise) bool {
	return isWithin(p.Spot, 0, lastSpot) && isWithin(p.Times, 0, api.MaxTimes) &&
		0 <= p.Kinds.Low && p.Kinds.Low <= p.Kinds.High && p.Kinds.High <= api.MaxKind &&
		0 <= p.From && p.From <= p.To && p.To <= api.MaxDate
}

// validReports tells whether reports are about a valid campaign, and do not clash.
func validReports(c api.Campaign, l []api.Ran) bool {
	if len(l) > api.MaxRan {
		return false
	}
	for n, r := range l {
		clashes := func(other api.Ran) bool { return other.Id == r.Id && other != r }
		if !canBeReport(c, r) || slices.ContainsFunc(l[:n], clashes) {
			return false
		}
	}
	return true
}

func canBeReport(c api.Campaign, r api.Ran) bool {
	return isWithin(r.Id, 0, api.MaxId) && isWithin(r.Spot, 0, lastSpot) && isWithin(r.Showing, 0, len(c.Showings)-1)
}

func isWithin(n, low, high int) bool { return low <= n && n <= high }
