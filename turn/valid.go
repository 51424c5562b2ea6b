package turn

import "bijou/api"

func validHouse(h api.House) bool {
	return isWithin(h.Teams, 1, api.MaxTeams) && isWithin(h.Walk, 0, api.MaxWalk) &&
		isWithin(h.Early, 0, api.MaxEarly) && isWithin(h.Foyer, 0, api.MaxFoyer) &&
		isSpanWithin(h.Doors, 1, api.MaxDoors) && isSpanWithin(h.Clean, 1, api.MaxClean)
}

// validSlots tells whether slots are valid in a valid house.
func validSlots(h api.House, l []api.Slot) bool {
	if len(l) > api.MaxTurns {
		return false
	}
	for n, s := range l {
		if !canBeSlot(h, s) || !isWithin(s.Begin, 0, api.MaxBegin) || !comesBehind(l[:n], s) {
			return false
		}
	}
	return true
}

// canBeSlot tells whether a slot is as described, apart from its Begin.
func canBeSlot(h api.House, s api.Slot) bool {
	return isWithin(s.Screen, 0, api.MaxHalls-1) && isSpanWithin(s.Runs, 1, api.MaxLong) &&
		isWithin(s.Crowd, 0, api.MaxPeople) && isWithin(s.Team, 0, h.Teams-1)
}

// comesBehind tells whether a slot begins late enough to come behind some others.
func comesBehind(l []api.Slot, s api.Slot) bool {
	for _, before := range l {
		if s.Begin < before.Begin || s.Begin == before.Begin && s.Screen == before.Screen {
			return false
		}
	}
	return true
}

func isSpanWithin(s api.Span, low, high int) bool {
	return low <= s.Low && s.Low <= s.High && s.High <= high
}

func isWithin(n, low, high int) bool { return low <= n && n <= high }
