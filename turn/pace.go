package turn

import "bijou/api"

// pace is how fast everything goes: how many people pass the doors in a minute, how many minutes a screen is cleaned, and how many a show runs.
type pace struct {
	rate, cleaning int
	runs           func(s api.Slot) int
}

func fastest(h api.House) pace {
	return newPace(h, h.Doors.High, func(s api.Span) int { return s.Low })
}

func slowest(h api.House) pace {
	return newPace(h, h.Doors.Low, func(s api.Span) int { return s.High })
}

// newPace returns the pace at which all cleanings and shows take the minutes that a function chooses of their span.
func newPace(h api.House, rate int, choose func(s api.Span) int) pace {
	return pace{rate: rate, cleaning: choose(h.Clean), runs: func(s api.Slot) int { return choose(s.Runs) }}
}

// passing returns in how many minutes a crowd passes the doors.
func (p pace) passing(crowd int) int { return (crowd + p.rate - 1) / p.rate }
