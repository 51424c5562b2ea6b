package lamp

import (
	"slices"

	"bijou/api"
)

func validLamp(l api.Lamp) bool {
	return isSpanWithin(l.Full, 0, api.MaxLight) && isSpanWithin(l.Norm, 0, api.MaxLight) &&
		isSpanWithin(l.Fade, 0, api.MaxFade) && isHour(l.Rated) &&
		len(l.Gauges) <= api.MaxGauges && all(l.Gauges, validGauge) &&
		isWithin(l.Wrong, 0, api.MaxWrong)
}

func validGauge(g api.Gauge) bool {
	return isHour(g.Hour) && isSpanWithin(api.Span{Low: g.Low, High: g.High}, -api.MaxLight, api.MaxLight)
}

func validDays(days []int) bool { return len(days) <= api.MaxShown && all(days, isHour) }

// checkHour returns the first error of a question about an hour of a lamp.
func checkHour(l api.Lamp, hour int) api.Errno {
	switch {
	case !validLamp(l):
		return api.ErrLamp
	case !isHour(hour):
		return api.ErrArg
	case !hasTruth(l):
		return api.ErrNone
	}
	return api.OK
}

// all tells whether a function is true for each element.
func all[T any](l []T, is func(T) bool) bool {
	return !slices.ContainsFunc(l, func(x T) bool { return !is(x) })
}

// isHour tells whether a number is one of hours that a lamp can have burnt, or burns on a day.
func isHour(n int) bool { return isWithin(n, 0, api.MaxBurn) }

func isSpanWithin(s api.Span, low, high int) bool {
	return low <= s.Low && s.Low <= s.High && s.High <= high
}

func isWithin(n, low, high int) bool { return low <= n && n <= high }
