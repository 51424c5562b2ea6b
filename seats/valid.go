package seats

import (
	"slices"

	"bijou/api"
)

func validHall(h api.Hall) bool {
	return isWithin(len(h.Rows), 1, api.MaxRows) && all(h.Rows, isSize) && isWithin(h.Hold, 1, api.MaxHold)
}

func validCalls(l []api.Call) bool { return len(l) <= api.MaxCalls && all(l, validCall) }

func validCall(c api.Call) bool {
	return isId(c.Id) && isId(c.Order) && isMinute(c.At) && validSize(c)
}

// validSize tells whether a call has a kind, and a size that goes with it.
func validSize(c api.Call) bool {
	switch c.Kind {
	case api.AskSeats:
		return isSize(c.Size)
	case api.PaySeats, api.DropSeats:
		return c.Size == 0
	}
	return false
}

// clash tells whether two calls with the same Id are not equal.
func clash(l []api.Call) bool {
	came := map[int]api.Call{}
	for _, c := range l {
		if other, ok := came[c.Id]; ok && c != other {
			return true
		}
		came[c.Id] = c
	}
	return false
}

// all tells whether a function is true for each element.
func all[T any](l []T, is func(T) bool) bool {
	return !slices.ContainsFunc(l, func(x T) bool { return !is(x) })
}

// isSize tells whether a number can be the size of a group, or of a row.
func isSize(n int) bool { return isWithin(n, 1, api.MaxRow) }

func isId(n int) bool { return isWithin(n, 0, api.MaxId) }

func isMinute(n int) bool { return isWithin(n, 0, api.MaxClock) }

func isWithin(n, low, high int) bool { return low <= n && n <= high }
