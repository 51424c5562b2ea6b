package reel

import "bijou/api"

// described tells whether a mark is as described for a reel of that length.
func described(m api.Mark, length int) bool {
	switch m.Kind {
	case api.Torn:
		return ordered(m.From, m.To, length) && counts(m.Count)
	case api.Seen, api.Gone:
		return ordered(m.From, m.To, length) && m.Count == api.Span{}
	case api.Counted, api.Joined:
		return m.From == 0 && m.To == 0 && counts(m.Count)
	}
	return false
}

// ordered tells whether both numbers are feet of a reel of that length, the first at most the second.
func ordered(from, to, length int) bool { return 0 <= from && from <= to && to < length }

// counts tells whether a span is one of numbers of feet.
func counts(s api.Span) bool { return 0 <= s.Low && s.Low <= s.High && s.High <= api.MaxFeet }

// holds tells whether a number is in a span.
func holds(s api.Span, n int) bool { return s.Low <= n && n <= s.High }

// tears returns the marks that took feet out.
func tears(r api.Reel) []api.Mark {
	var l []api.Mark
	for _, m := range r.Marks {
		if m.Kind == api.Torn {
			l = append(l, m)
		}
	}
	return l
}

// claims returns, for each mark that is no tear, whether it is true of the feet that are there.
func claims(r api.Reel) []func(there feet) bool {
	var l []func(feet) bool
	for _, m := range r.Marks {
		if m.Kind != api.Torn {
			l = append(l, claim(m))
		}
	}
	return l
}

func claim(m api.Mark) func(there feet) bool {
	switch m.Kind {
	case api.Seen:
		part := between(m.From, m.To)
		return func(there feet) bool { return there&part == part }
	case api.Gone:
		part := between(m.From, m.To)
		return func(there feet) bool { return there&part != part }
	case api.Counted:
		return func(there feet) bool { return holds(m.Count, there.count()) }
	}
	return func(there feet) bool { return holds(m.Count, there.splices()) }
}
