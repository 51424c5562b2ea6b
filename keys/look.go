package keys

import "bijou/api"

// first returns the first element of which something is so, and whether there is one.
func first[T any](l []T, is func(T) bool) (T, bool) {
	for _, x := range l {
		if is(x) {
			return x, true
		}
	}
	var none T
	return none, false
}

func findAsset(l []api.Asset, id int) (api.Asset, bool) {
	return first(l, func(a api.Asset) bool { return a.Id == id })
}

func findComp(l api.Library, id int) (api.Comp, bool) {
	return first(l.Comps, func(c api.Comp) bool { return c.Id == id })
}

func findScreen(l api.Library, id int) (api.Server, bool) {
	return first(l.Screens, func(s api.Server) bool { return s.Id == id })
}

// newIds returns a function that tells of each Id that it is asked whether this one did not come before.
func newIds() func(id int) bool {
	came := map[int]bool{}
	return func(id int) bool {
		before := came[id]
		came[id] = true
		return !before
	}
}

// look returns a composition on a screen, both given by their Ids.
func look(l api.Library, comp, screen int) (placed, api.Errno) {
	if e := Check(l); e != api.OK {
		return placed{}, e
	}
	c, hasComp := findComp(l, comp)
	s, hasScreen := findScreen(l, screen)
	if !hasComp || !hasScreen {
		return placed{}, api.ErrArg
	}
	return place(l, c, s), api.OK
}

// lookAt does the same for a call with a minute.
func lookAt(l api.Library, comp, screen, minute int) (placed, api.Errno) {
	p, e := look(l, comp, screen)
	if e == api.OK && !isTime(minute) {
		return placed{}, api.ErrArg
	}
	return p, e
}
