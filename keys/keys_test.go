package keys_test

import (
	"math"
	"math/rand"
	"slices"
	"testing"

	"bijou/api"
	"bijou/keys"
)

// P2.1: Check returns the first error of a library.
func TestCheck(t *testing.T) {
	for name, x := range faulty() {
		if e := keys.Check(with(exampleL(), x.change)); e != x.e {
			t.Errorf("%s: Check = %d, not %d", name, e, x.e)
		}
	}
	for i, l := range sound() {
		if e := keys.Check(l); e != api.OK {
			t.Errorf("sound library %d: Check = %d", i, e)
		}
	}
}

// checkErrors tells whether all calls with a composition, a screen and a minute return an error with zero values.
func checkErrors(t *testing.T, name string, l api.Library, comp, screen, from int, want api.Errno) {
	t.Helper()
	if reason, which, e := keys.Why(l, comp, screen, from); reason != 0 || which != 0 || e != want {
		t.Errorf("%s: Why = %d, %d, %d, not error %d", name, reason, which, e, want)
	}
	if n, e := keys.Next(l, comp, screen, from); n != 0 || e != want {
		t.Errorf("%s: Next = %d, %d, not error %d", name, n, e, want)
	}
	if n, e := keys.Fewest(l, comp, screen, from); n != 0 || e != want {
		t.Errorf("%s: Fewest = %d, %d, not error %d", name, n, e, want)
	}
}

// checkPairErrors does the same for calls without a minute.
func checkPairErrors(t *testing.T, name string, l api.Library, comp, screen int, want api.Errno) {
	t.Helper()
	if ids, e := keys.Missing(l, comp, screen); len(ids) != 0 || e != want {
		t.Errorf("%s: Missing = %v, %d, not error %d", name, ids, e, want)
	}
	if open, e := keys.Open(l, comp, screen); len(open) != 0 || e != want {
		t.Errorf("%s: Open = %v, %d, not error %d", name, open, e, want)
	}
}

func checkFindError(t *testing.T, name string, l api.Library, want api.Comp, screen, from int, e api.Errno) {
	t.Helper()
	if ids, got := keys.Find(l, want, screen, from); len(ids) != 0 || got != e {
		t.Errorf("%s: Find = %v, %d, not error %d", name, ids, got, e)
	}
}

func checkMergeError(t *testing.T, name string, l api.Library, more []api.Key, recalled []int, want api.Errno) {
	t.Helper()
	if m, e := keys.Merge(l, more, recalled); !sameLibrary(m, api.Library{}) || e != want {
		t.Errorf("%s: Merge = %v, %d, not error %d", name, m, e, want)
	}
}

// P1: every function returns the error of the library before any other one, with zero values.
func TestErrorsOfLibraries(t *testing.T) {
	for name, x := range faulty() {
		l := with(exampleL(), x.change)
		checkErrors(t, name, l, 77, 77, -1, x.e)
		checkErrors(t, name, l, 7, 1, 150, x.e)
		checkPairErrors(t, name, l, 77, 77, x.e)
		checkPairErrors(t, name, l, 7, 1, x.e)
		checkFindError(t, name, l, api.Comp{Film: -1}, 77, -1, x.e)
		checkFindError(t, name, l, api.Comp{Film: 1}, 1, 150, x.e)
		checkMergeError(t, name, l, nil, nil, x.e)
	}
}

// P1: a composition, a screen or a minute that is not there is ErrArg, before ErrNone.
func TestErrorsOfArguments(t *testing.T) {
	l := exampleL()
	for _, x := range []struct{ comp, screen int }{{6, 1}, {7, 3}, {0, 0}, {-1, 1}, {7, -1}, {1, 7}, {math.MaxInt, math.MinInt}, {100, 1}, {7, 100}} {
		checkErrors(t, "strange pair", l, x.comp, x.screen, 150, api.ErrArg)
		checkPairErrors(t, "strange pair", l, x.comp, x.screen, api.ErrArg)
	}
	checkErrors(t, "no library", api.Library{}, 0, 0, 0, api.ErrArg)
	checkPairErrors(t, "no library", api.Library{}, 0, 0, api.ErrArg)
	for _, from := range []int{-1, 10000, math.MinInt, math.MaxInt} {
		for _, comp := range []int{7, 8, 9} {
			checkErrors(t, "no time", l, comp, 1, from, api.ErrArg)
			checkErrors(t, "no time", l, comp, 2, from, api.ErrArg)
		}
		checkFindError(t, "no time", l, api.Comp{Film: 1}, 1, from, api.ErrArg)
	}
	for _, screen := range []int{0, 3, -1, math.MaxInt} {
		checkFindError(t, "no screen", l, api.Comp{Film: 1}, screen, 150, api.ErrArg)
	}
	for _, n := range []int{math.MinInt, -2, 10, 100, math.MaxInt} {
		checkFindError(t, "no tongue", l, api.Comp{Film: 1, Tongue: n, Subs: -1}, 1, 150, api.ErrArg)
		checkFindError(t, "no subtitles", l, api.Comp{Film: 1, Tongue: -1, Subs: n}, 1, 150, api.ErrArg)
	}
	for _, n := range []int{math.MinInt, -1, 100, math.MaxInt} {
		checkFindError(t, "no film", l, api.Comp{Film: n, Tongue: -1, Subs: -1}, 1, 150, api.ErrArg)
	}
}

// P2.2: keys and recalls are there once, in order, and all else is as it was.
func TestMerge(t *testing.T) {
	old := withRecall(exampleL(), 9, 2, 9)
	for name, x := range map[string]struct {
		more, keys     []api.Key
		recalled, both []int
	}{
		"nothing more":        {nil, old.Keys, nil, []int{2, 9}},
		"empty lists":         {[]api.Key{}, old.Keys, []int{}, []int{2, 9}},
		"a key before all":    {[]api.Key{window(0, 1, 2)}, append([]api.Key{window(0, 1, 2)}, old.Keys...), nil, []int{2, 9}},
		"a key behind all":    {[]api.Key{window(99, 1, 2)}, append(slices.Clone(old.Keys), window(99, 1, 2)), nil, []int{2, 9}},
		"a key that was":      {[]api.Key{newKey(2, 7, 240, 400, 4, 5, 6)}, old.Keys, nil, []int{2, 9}},
		"a key twice":         {[]api.Key{window(5, 1, 2), window(5, 1, 2)}, append(slices.Clone(old.Keys), window(5, 1, 2)), nil, []int{2, 9}},
		"keys that descend":   {[]api.Key{window(6, 1, 2), window(5, 3, 4)}, append(slices.Clone(old.Keys), window(5, 3, 4), window(6, 1, 2)), nil, []int{2, 9}},
		"recalls":             {nil, old.Keys, []int{10, 2, 0, 10, 5}, []int{0, 2, 5, 9, 10}},
		"a recall of a key":   {nil, old.Keys, []int{1}, []int{1, 2, 9}},
		"all that is allowed": {upKeys(4, 17), append(slices.Clone(old.Keys), upKeys(4, 17)...), upFrom(10, 18), append([]int{2, 9}, upFrom(10, 18)...)},
	} {
		want := with(old, func(l *api.Library) { l.Keys, l.Recalled = x.keys, x.both })
		if m, e := keys.Merge(old, x.more, x.recalled); e != api.OK || !sameLibrary(m, want) {
			t.Errorf("%s: Merge = %v, %d, not %v", name, m, e, want)
		}
	}
	descending := with(old, func(l *api.Library) {
		slices.Reverse(l.Assets)
		slices.Reverse(l.Comps)
		slices.Reverse(l.Screens)
		slices.Reverse(l.Keys)
		l.Keys = append(l.Keys, l.Keys...)
	})
	want := with(descending, func(l *api.Library) { l.Keys, l.Recalled = old.Keys, []int{2, 9} })
	if m, e := keys.Merge(descending, nil, nil); e != api.OK || !sameLibrary(m, want) {
		t.Errorf("Merge = %v, %d, not %v", m, e, want)
	}
	twice := small(1, slices.Repeat([]api.Key{window(9, 4, 8)}, 20)...)
	if m, e := keys.Merge(twice, slices.Concat(twice.Keys[1:], []api.Key{window(8, 4, 8)}), slices.Repeat([]int{4}, 20)); e != api.OK || !sameLibrary(m, withRecall(small(1, window(8, 4, 8), window(9, 4, 8)), 4)) {
		t.Errorf("Merge of keys that come 20 times = %v, %d", m, e)
	}
}

// upKeys returns n keys with Ids from the first one on.
func upKeys(first, n int) []api.Key {
	var l []api.Key
	for _, id := range upFrom(first, n) {
		l = append(l, window(id, id, id+5))
	}
	return l
}

// P2.2: the errors of Merge, in their order.
func TestErrorsOfMerge(t *testing.T) {
	for name, x := range faultyMessages() {
		checkMergeError(t, name, exampleL(), x.keys, x.recalled, x.e)
		checkMergeError(t, name, small(1, upKeys(60, 20)...), x.keys, x.recalled, x.e)
	}
	clashing := withKey(exampleL(), newKey(3, 8, 0, 998, 4))
	wrong := with(exampleL(), func(l *api.Library) { l.Comps[0].Minutes = 0 })
	for name, x := range map[string]struct {
		l        api.Library
		more     []api.Key
		recalled []int
		e        api.Errno
	}{
		"21 keys together":                 {exampleL(), upKeys(4, 18), nil, api.ErrLibrary},
		"40 keys together":                 {small(1, upKeys(0, 20)...), upKeys(20, 20), nil, api.ErrLibrary},
		"21 keys, of which one clashes":    {small(1, upKeys(0, 20)...), []api.Key{window(0, 0, 0)}, nil, api.ErrLibrary},
		"20 keys, of which one clashes":    {small(1, upKeys(0, 19)...), []api.Key{window(0, 0, 0)}, nil, api.ErrKey},
		"21 recalls together":              {withRecall(exampleL(), 0), nil, upFrom(1, 20), api.ErrLibrary},
		"21 recalls and keys that clash":   {withRecall(exampleL(), 0), []api.Key{newKey(1, 7, 100, 251, 4, 5)}, upFrom(1, 20), api.ErrLibrary},
		"a key that clashes":               {exampleL(), []api.Key{newKey(1, 7, 100, 251, 4, 5)}, nil, api.ErrKey},
		"a key of other devices":           {exampleL(), []api.Key{newKey(1, 7, 100, 250, 4)}, nil, api.ErrKey},
		"a key that clashes, recalled":     {withRecall(exampleL(), 1), []api.Key{newKey(1, 7, 100, 251, 4, 5)}, []int{1}, api.ErrKey},
		"the library clashes":              {clashing, nil, nil, api.ErrKey},
		"the library clashes, a key -1":    {clashing, []api.Key{window(-1, 0, 0)}, nil, api.ErrKey},
		"the library is wrong, keys clash": {wrong, []api.Key{window(4, 0, 0), window(4, 0, 1)}, nil, api.ErrLibrary},
		"21 keys, of which new ones clash": {small(1, upKeys(0, 20)...), []api.Key{window(30, 0, 0), window(30, 0, 1)}, nil, api.ErrKey},
	} {
		checkMergeError(t, name, x.l, x.more, x.recalled, x.e)
	}
}

// P2.3.
func TestMissing(t *testing.T) {
	l := exampleL()
	none := with(l, func(l *api.Library) { l.Screens[0].Files = nil })
	others := with(l, func(l *api.Library) {
		l.Screens[0].Files = []api.Asset{{Id: 4, Sum: 11}, {Id: 1, Sum: 22}, {Id: 2, Sum: 22}}
	})
	for i, x := range []struct {
		l            api.Library
		comp, screen int
		want         []int
	}{
		{l, 7, 1, nil}, {l, 8, 1, []int{3}}, {l, 9, 1, []int{3}},
		{l, 7, 2, []int{2}}, {l, 8, 2, nil}, {l, 9, 2, nil},
		{none, 7, 1, []int{1, 2}}, {none, 8, 1, []int{1, 3}}, {none, 9, 1, []int{3}},
		{others, 7, 1, []int{1}}, {others, 8, 1, []int{1, 3}},
		{with(none, func(l *api.Library) { slices.Reverse(l.Assets) }), 8, 1, []int{1, 3}},
		{small(1), 1, 1, nil},
		{full(), 99, 94, upFrom(88, 12)},
	} {
		if ids, e := keys.Missing(x.l, x.comp, x.screen); !slices.Equal(ids, x.want) || e != api.OK {
			t.Errorf("%d: Missing of %d on %d = %v, %d, not %v", i, x.comp, x.screen, ids, e, x.want)
		}
	}
}

func span(low, high int) api.Span { return api.Span{Low: low, High: high} }

// P2.4.
func TestOpen(t *testing.T) {
	l := exampleL()
	all := []api.Span{span(0, 9999)}
	for i, x := range []struct {
		l            api.Library
		comp, screen int
		want         []api.Span
	}{
		{l, 7, 1, []api.Span{span(100, 400)}}, {l, 8, 2, nil}, {l, 9, 2, all}, {l, 9, 1, all}, {l, 8, 1, nil},
		{l, 7, 2, []api.Span{span(240, 400)}}, // open, though it is not whole
		{withRecall(l, 1), 7, 1, []api.Span{span(240, 400)}},
		{withRecall(l, 2, 3), 7, 1, []api.Span{span(100, 250)}},
		{withRecall(l, 1, 2), 7, 1, nil},
		{withRecall(withKey(l, newKey(50, 9, 5, 6, 6)), 50), 9, 2, all},
		{small(5), 1, 1, nil},
		{small(5, window(1, 0, 9999)), 1, 1, all},
		{small(5, window(1, 7, 7)), 1, 1, []api.Span{span(7, 7)}},
		{small(5, window(1, 5, 9), window(2, 10, 12)), 1, 1, []api.Span{span(5, 12)}},
		{small(5, window(1, 5, 9), window(2, 11, 12)), 1, 1, []api.Span{span(5, 9), span(11, 12)}},
		{small(5, window(1, 11, 12), window(2, 5, 9), window(3, 0, 3)), 1, 1, []api.Span{span(0, 3), span(5, 9), span(11, 12)}},
		{small(5, window(1, 11, 12), window(2, 5, 9), window(3, 10, 10)), 1, 1, []api.Span{span(5, 12)}},
		{small(5, window(1, 5, 90), window(2, 10, 12), window(3, 20, 20)), 1, 1, []api.Span{span(5, 90)}},
		{small(5, window(1, 5, 90), window(2, 10, 12), window(3, 92, 93)), 1, 1, []api.Span{span(5, 90), span(92, 93)}},
		{small(5, window(1, 5, 9), window(1, 5, 9), window(2, 5, 6)), 1, 1, []api.Span{span(5, 9)}},
		{small(5, window(1, 0, 0), window(2, 9999, 9999)), 1, 1, []api.Span{span(0, 0), span(9999, 9999)}},
		{small(5, newKey(1, 1, 3, 4, 1), newKey(2, 1, 5, 6, 2)), 1, 1, nil},
		{small(5, newKey(1, 1, 3, 4), newKey(2, 1, 5, 6, 0, 1, 2, 3)), 1, 1, []api.Span{span(5, 6)}},
		{small(5, newKey(1, 2, 3, 4, 1, 2)), 1, 1, nil},
	} {
		if open, e := keys.Open(x.l, x.comp, x.screen); !slices.Equal(open, x.want) || e != api.OK {
			t.Errorf("%d: Open of %d on %d = %v, %d, not %v", i, x.comp, x.screen, open, e, x.want)
		}
	}
}

// P2.5.
func TestWhy(t *testing.T) {
	l := exampleL()
	unlocked := with(l, func(l *api.Library) { l.Comps[0].Locked = false })
	for i, x := range []struct {
		l                                   api.Library
		comp, screen, from, reason, subject int
	}{
		{l, 7, 1, 150, api.NoLack, 249}, {l, 7, 1, 302, api.Shut, 401}, {l, 7, 1, 50, api.Shut, 50},
		{l, 8, 1, 0, api.NoFile, 3}, {l, 8, 2, 0, api.Foreign, 6}, {l, 9, 2, 0, api.NoLack, 19},
		{withRecall(l, 1, 2), 7, 1, 150, api.NoKey, -1},
		{l, 7, 1, 100, api.NoLack, 199}, {l, 7, 1, 99, api.Shut, 99}, {l, 7, 1, 301, api.NoLack, 400}, {l, 7, 1, 401, api.Shut, 401}, {l, 7, 1, 9999, api.Shut, 9999},
		{withRecall(l, 1), 7, 1, 150, api.Shut, 150}, {withRecall(l, 2), 7, 1, 152, api.Shut, 251},
		{l, 7, 2, 150, api.NoFile, 2}, {withRecall(l, 1, 2), 7, 2, 150, api.NoFile, 2},
		{withRecall(l, 3), 8, 1, 0, api.NoFile, 3}, {withRecall(l, 3), 8, 2, 0, api.NoKey, -1},
		{l, 9, 1, 0, api.NoFile, 3},
		{l, 9, 2, 9980, api.NoLack, 9999}, {l, 9, 2, 9981, api.Shut, 10000}, {l, 9, 2, 9999, api.Shut, 10000},
		{unlocked, 7, 1, 0, api.NoLack, 99}, {unlocked, 7, 1, 9950, api.Shut, 10000},
		{withRecall(unlocked, 1, 2), 7, 1, 9950, api.Shut, 10000},
		{small(5, window(1, 9990, 9999)), 1, 1, 9995, api.NoLack, 9999}, {small(5, window(1, 9990, 9999)), 1, 1, 9996, api.Shut, 10000},
		{small(1, window(1, 4, 4)), 1, 1, 4, api.NoLack, 4}, {small(1, window(1, 4, 4)), 1, 1, 5, api.Shut, 5}, {small(2, window(1, 4, 4)), 1, 1, 4, api.Shut, 5},
		{small(5), 1, 1, 4, api.NoKey, -1}, {small(5, newKey(1, 2, 0, 99, 1, 2)), 1, 1, 4, api.NoKey, -1},
		{small(5, newKey(1, 1, 0, 99, 1)), 1, 1, 4, api.Foreign, 2}, {small(5, newKey(1, 1, 0, 99, 2)), 1, 1, 4, api.Foreign, 1}, {small(5, newKey(1, 1, 0, 99)), 1, 1, 4, api.Foreign, 1},
		{small(5, newKey(4, 1, 0, 99, 1), newKey(3, 1, 0, 99, 2)), 1, 1, 4, api.Foreign, 1},
		{small(5, newKey(3, 1, 0, 99, 1), newKey(4, 1, 0, 99, 2)), 1, 1, 4, api.Foreign, 2},
		{withRecall(small(5, newKey(3, 1, 0, 99, 1), newKey(4, 1, 0, 99, 2)), 3), 1, 1, 4, api.Foreign, 1},
		{small(5, newKey(2, 2, 0, 99), newKey(3, 1, 0, 99, 1)), 1, 1, 4, api.Foreign, 2},
		{small(5, newKey(3, 1, 0, 99, 1), newKey(4, 1, 50, 60, 1, 2)), 1, 1, 4, api.Shut, 4},
	} {
		if reason, which, e := keys.Why(x.l, x.comp, x.screen, x.from); reason != x.reason || which != x.subject || e != api.OK {
			t.Errorf("%d: Why of %d on %d from %d = %d, %d, %d, not %d, %d", i, x.comp, x.screen, x.from, reason, which, e, x.reason, x.subject)
		}
	}
}

// P2.6.
func TestNext(t *testing.T) {
	l := exampleL()
	gaps := small(5, window(1, 10, 13), window(2, 20, 24), window(3, 30, 40))
	for i, x := range []struct {
		l                        api.Library
		comp, screen, from, want int
		e                        api.Errno
	}{
		{l, 7, 1, 0, 100, api.OK}, {l, 7, 1, 302, 0, api.ErrNone}, {l, 7, 1, 301, 301, api.OK}, {l, 7, 1, 100, 100, api.OK}, {l, 7, 1, 101, 101, api.OK},
		{l, 7, 2, 0, 0, api.ErrNone}, {l, 8, 1, 0, 0, api.ErrNone}, {l, 8, 2, 0, 0, api.ErrNone}, {l, 9, 1, 0, 0, api.ErrNone},
		{l, 9, 2, 0, 0, api.OK}, {l, 9, 2, 9980, 9980, api.OK}, {l, 9, 2, 9981, 0, api.ErrNone},
		{withRecall(l, 1), 7, 1, 0, 240, api.OK}, {withRecall(l, 1, 2), 7, 1, 0, 0, api.ErrNone},
		{gaps, 1, 1, 0, 20, api.OK}, {gaps, 1, 1, 20, 20, api.OK}, {gaps, 1, 1, 21, 30, api.OK}, {gaps, 1, 1, 33, 33, api.OK}, {gaps, 1, 1, 36, 36, api.OK}, {gaps, 1, 1, 37, 0, api.ErrNone}, {gaps, 1, 1, 9999, 0, api.ErrNone},
		{small(1, window(1, 9999, 9999)), 1, 1, 0, 9999, api.OK}, {small(1, window(1, 9999, 9999)), 1, 1, 9999, 9999, api.OK},
		{small(1, window(1, 0, 0)), 1, 1, 0, 0, api.OK}, {small(1, window(1, 0, 0)), 1, 1, 1, 0, api.ErrNone},
		{small(400, window(1, 0, 398)), 1, 1, 0, 0, api.ErrNone}, {small(400, window(1, 3, 402)), 1, 1, 0, 3, api.OK},
		{small(400, window(1, 9600, 9999)), 1, 1, 0, 9600, api.OK}, {small(400, window(1, 9601, 9999)), 1, 1, 0, 0, api.ErrNone},
	} {
		if n, e := keys.Next(x.l, x.comp, x.screen, x.from); n != x.want || e != x.e {
			t.Errorf("%d: Next of %d on %d from %d = %d, %d, not %d, %d", i, x.comp, x.screen, x.from, n, e, x.want, x.e)
		}
	}
}

// P2.7.
func TestFewest(t *testing.T) {
	l := exampleL()
	greedy := small(10, window(1, 0, 4), window(2, 3, 6), window(3, 5, 9), window(4, 1, 8), window(5, 0, 4))
	for i, x := range []struct {
		l                        api.Library
		comp, screen, from, want int
		e                        api.Errno
	}{
		{l, 7, 1, 150, 1, api.OK}, {l, 7, 1, 200, 2, api.OK}, {l, 9, 2, 0, 0, api.OK},
		{l, 7, 1, 151, 1, api.OK}, {l, 7, 1, 152, 2, api.OK}, {l, 7, 1, 239, 2, api.OK}, {l, 7, 1, 240, 1, api.OK},
		{l, 7, 1, 302, 0, api.ErrNone}, {l, 7, 1, 99, 0, api.ErrNone}, {l, 8, 1, 0, 0, api.ErrNone}, {l, 8, 2, 0, 0, api.ErrNone}, {l, 9, 1, 0, 0, api.ErrNone},
		{l, 9, 2, 9980, 0, api.OK}, {l, 9, 2, 9981, 0, api.ErrNone},
		{withRecall(l, 1), 7, 1, 200, 0, api.ErrNone}, {withRecall(l, 2), 7, 1, 150, 1, api.OK},
		{greedy, 1, 1, 0, 2, api.OK},
		{small(3, window(1, 5, 5), window(2, 6, 6), window(3, 7, 7), window(4, 8, 8)), 1, 1, 5, 3, api.OK},
		{small(3, window(1, 5, 5), window(2, 6, 6), window(3, 7, 7), window(4, 5, 6)), 1, 1, 5, 2, api.OK},
		{small(3, window(1, 5, 7), window(1, 5, 7)), 1, 1, 5, 1, api.OK},
		{small(1, window(1, 9999, 9999)), 1, 1, 9999, 1, api.OK},
		{small(4, window(1, 0, 1), window(2, 0, 9), newKey(3, 1, 0, 99, 1), newKey(4, 2, 0, 99, 1, 2)), 1, 1, 0, 1, api.OK},
		{withRecall(small(4, window(1, 0, 1), window(2, 2, 9), window(3, 0, 99)), 3), 1, 1, 0, 2, api.OK},
		{small(20, upWindows(20)...), 1, 1, 0, 20, api.OK},
	} {
		if n, e := keys.Fewest(x.l, x.comp, x.screen, x.from); n != x.want || e != x.e {
			t.Errorf("%d: Fewest of %d on %d from %d = %d, %d, not %d, %d", i, x.comp, x.screen, x.from, n, e, x.want, x.e)
		}
	}
}

// upWindows returns n keys of a minute each.
func upWindows(n int) []api.Key {
	var l []api.Key
	for _, m := range upFrom(0, n) {
		l = append(l, window(n-m, m, m))
	}
	return l
}

// P2.8.
func TestFind(t *testing.T) {
	l := exampleL()
	versions := with(l, func(l *api.Library) {
		l.Comps = []api.Comp{
			{Id: 30, Film: 4, Tongue: 0, Subs: 9, Minutes: 10, Assets: []int{1}},
			{Id: 20, Film: 4, Tongue: 9, Subs: 0, Minutes: 10, Assets: []int{2}},
			{Id: 25, Film: 4, Tongue: 9, Subs: 9, Minutes: 10, Assets: []int{1, 3}},
			{Id: 10, Film: 0, Tongue: 9, Subs: 0, Minutes: 10, Assets: []int{1}},
			{Id: 0, Film: 99, Tongue: 0, Subs: 0, Minutes: 5, Locked: true, Assets: []int{1}},
		}
		l.Keys = []api.Key{newKey(1, 0, 10, 20, 4, 5)}
		l.Screens[0].Files[2].Sum = 33
	})
	film := func(film, tongue, subs int) api.Comp { return api.Comp{Film: film, Tongue: tongue, Subs: subs} }
	for i, x := range []struct {
		l            api.Library
		want         api.Comp
		screen, from int
		ids          []int
	}{
		{l, film(1, -1, -1), 1, 150, []int{7}}, {l, film(1, 1, 0), 1, 150, []int{7}}, {l, film(1, 2, -1), 1, 150, nil}, {l, film(1, -1, 1), 1, 150, nil},
		{l, film(2, -1, -1), 1, 150, nil}, {l, film(2, -1, -1), 2, 150, []int{9}}, {l, film(1, -1, -1), 1, 302, nil}, {l, film(1, -1, -1), 2, 150, nil},
		{l, film(3, -1, -1), 1, 150, nil}, {l, film(99, 9, 9), 1, 9999, nil}, {l, film(0, 0, 0), 1, 0, nil}, {withRecall(l, 1), film(1, -1, -1), 1, 150, nil},
		{l, api.Comp{Id: -5, Film: 1, Tongue: -1, Subs: -1, Minutes: 9999, Assets: []int{77}}, 1, 150, []int{7}},
		{versions, film(4, -1, -1), 1, 0, []int{20, 25, 30}}, {versions, film(4, 9, -1), 1, 0, []int{20, 25}}, {versions, film(4, -1, 9), 1, 0, []int{25, 30}},
		{versions, film(4, 9, 9), 1, 0, []int{25}}, {versions, film(4, 0, -1), 1, 0, []int{30}}, {versions, film(4, -1, 0), 1, 0, []int{20}}, {versions, film(4, 0, 0), 1, 0, nil},
		{versions, film(4, -1, -1), 2, 0, []int{25, 30}}, {versions, film(0, -1, -1), 1, 9990, []int{10}}, {versions, film(0, -1, -1), 1, 9991, nil},
		{versions, film(99, -1, -1), 1, 16, []int{0}}, {versions, film(99, -1, -1), 1, 17, nil}, {versions, film(99, -1, -1), 2, 16, nil},
	} {
		if ids, e := keys.Find(x.l, x.want, x.screen, x.from); !slices.Equal(ids, x.ids) || e != api.OK {
			t.Errorf("%d: Find of %v on %d from %d = %v, %d, not %v", i, x.want, x.screen, x.from, ids, e, x.ids)
		}
	}
}

// P2.3 to P2.8: all functions agree with what comes out if every minute is looked at.
func TestAgainstEachMinute(t *testing.T) {
	rnd := rand.New(rand.NewSource(1))
	reasons := map[int]int{}
	for range 300 {
		base := randomBase(rnd)
		l := randomLibrary(rnd, base, rnd.Intn(9))
		eachPair(l, func(c api.Comp, s api.Server) {
			open := openMinutes(l, c, s)
			compareSpans(t, l, c, s, open)
			near := times(base)
			for _, from := range near {
				reason := compareMinute(t, l, c, s, open, from, near[len(near)-1])
				reasons[reason]++
			}
		})
		for _, s := range l.Screens {
			compareFind(t, rnd, l, s, times(base))
		}
	}
	for reason := api.NoLack; reason <= api.Shut; reason++ {
		if reasons[reason] < 100 {
			t.Errorf("the reason %d came only %d times", reason, reasons[reason])
		}
	}
}

func compareSpans(t *testing.T, l api.Library, c api.Comp, s api.Server, open *minutes) {
	t.Helper()
	if ids, e := keys.Missing(l, c.Id, s.Id); e != api.OK || !slices.Equal(ids, missingFiles(l, c, s)) {
		t.Errorf("Missing of %d on %d of %v = %v, %d", c.Id, s.Id, l, ids, e)
	}
	spans, e := keys.Open(l, c.Id, s.Id)
	if e != api.OK {
		t.Errorf("Open of %d on %d of %v: %d", c.Id, s.Id, l, e)
	}
	var said minutes
	for i, x := range spans {
		if x.Low > x.High || i > 0 && x.Low <= spans[i-1].High+1 {
			t.Errorf("Open of %d on %d of %v = %v", c.Id, s.Id, l, spans)
			return
		}
		for m := x.Low; m <= x.High; m++ {
			said[m] = true
		}
	}
	if said != *open {
		t.Errorf("Open of %d on %d of %v = %v", c.Id, s.Id, l, spans)
	}
}

func compareMinute(t *testing.T, l api.Library, c api.Comp, s api.Server, open *minutes, from, last int) int {
	t.Helper()
	reason, which, e := keys.Why(l, c.Id, s.Id, from)
	if r, w := whyByTrying(l, c, s, open, from); r != reason || w != which || e != api.OK {
		t.Errorf("Why of %d on %d from %d of %v = %d, %d, %d, not %d, %d", c.Id, s.Id, from, l, reason, which, e, r, w)
	}
	next, want := nextByTrying(l, c, s, open, from, last), api.OK
	if next < 0 {
		next, want = 0, api.ErrNone
	}
	if n, e := keys.Next(l, c.Id, s.Id, from); n != next || e != want {
		t.Errorf("Next of %d on %d from %d of %v = %d, %d, not %d, %d", c.Id, s.Id, from, l, n, e, next, want)
	}
	return reason
}

func compareFind(t *testing.T, rnd *rand.Rand, l api.Library, s api.Server, minutes []int) {
	t.Helper()
	for _, from := range minutes {
		want := api.Comp{Film: rnd.Intn(2), Tongue: rnd.Intn(4) - 1, Subs: rnd.Intn(3) - 1}
		var ids []int
		for _, c := range l.Comps {
			if c.Film == want.Film && (want.Tongue == -1 || want.Tongue == c.Tongue) && (want.Subs == -1 || want.Subs == c.Subs) && canPlay(l, c.Id, s.Id, from) {
				ids = append(ids, c.Id)
			}
		}
		slices.Sort(ids)
		if found, e := keys.Find(l, want, s.Id, from); !slices.Equal(found, ids) || e != api.OK {
			t.Errorf("Find of %v on %d from %d of %v = %v, %d, not %v", want, s.Id, from, l, found, e, ids)
		}
	}
}

// P1 and R4: no call changes its argument, or shares memory with it or with another result.
func TestMemory(t *testing.T) {
	for i, l := range append(sound(), withRecall(exampleL(), 3, 2), withKey(exampleL(), newKey(3, 8, 0, 999, 4))) {
		before := clone(l)
		more, recalled := []api.Key{window(60, 3, 4), newKey(58, 7, 1, 2, 3, 5)}, []int{4, 3}
		if len(l.Keys) == api.MaxKeys {
			more, recalled = nil, nil
		}
		result, e := keys.Merge(l, more, recalled)
		if e != api.OK {
			t.Errorf("%d: Merge = %d", i, e)
		}
		again, _ := keys.Merge(result, nil, nil)
		copied := clone(result)
		spoil(again)
		if !sameLibrary(result, copied) {
			t.Errorf("%d: Merge of what Merge returned shares its memory", i)
		}
		spoil(result)
		if !sameLibrary(l, before) || len(more) > 0 && (!sameKey(more[0], window(60, 3, 4)) || !sameKey(more[1], newKey(58, 7, 1, 2, 3, 5)) || !slices.Equal(recalled, []int{4, 3})) {
			t.Errorf("%d: the result of Merge shares memory with an argument", i)
		}
		eachPair(l, func(c api.Comp, s api.Server) {
			keys.Why(l, c.Id, s.Id, 5)
			keys.Next(l, c.Id, s.Id, 5)
			keys.Fewest(l, c.Id, s.Id, 5)
			keys.Find(l, c, s.Id, 5)
			spoilList(keys.Missing(l, c.Id, s.Id))
			spoilList(keys.Open(l, c.Id, s.Id))
		})
		if !sameLibrary(l, before) {
			t.Errorf("%d: %v was changed to %v", i, before, l)
		}
	}
}

// A result with equal slices inside shares no memory between them either.
func TestMemoryWithin(t *testing.T) {
	shared := []int{1, 2}
	files := []api.Asset{{Id: 5, Sum: 50}, {Id: 1, Sum: 1}, {Id: 2, Sum: 1}}
	l := api.Library{
		Assets:  files,
		Comps:   []api.Comp{{Id: 1, Minutes: 1, Assets: shared}, {Id: 2, Minutes: 1, Assets: shared}},
		Screens: []api.Server{{Id: 1, Devices: shared, Files: files}, {Id: 2, Devices: shared, Files: files}},
		Keys:    []api.Key{newKey(1, 1, 0, 1, shared...), newKey(2, 1, 0, 1, shared...)},
	}
	m, e := keys.Merge(l, []api.Key{newKey(3, 1, 0, 1, shared...)}, nil)
	if e != api.OK {
		t.Fatalf("Merge = %d", e)
	}
	spoilList(m.Comps[0].Assets, api.OK)
	spoilList(m.Screens[0].Devices, api.OK)
	spoilList(m.Screens[0].Files, api.OK)
	spoilList(m.Keys[0].Devices, api.OK)
	spoilList(m.Keys[2].Devices, api.OK)
	if !sameComp(m.Comps[1], l.Comps[1]) || !sameScreen(m.Screens[1], l.Screens[1]) || !sameKey(m.Keys[1], l.Keys[1]) || !slices.Equal(m.Assets, files) || !slices.Equal(shared, []int{1, 2}) {
		t.Errorf("two parts of %v share memory", m)
	}
}

// spoilList overwrites all that a call returned, and what may lie behind it.
func spoilList[T any](l []T, _ api.Errno) {
	clear(l[:cap(l)])
}

func spoil(l api.Library) {
	for i := range l.Comps {
		spoilList(l.Comps[i].Assets, api.OK)
	}
	for i := range l.Screens {
		spoilList(l.Screens[i].Devices, api.OK)
		spoilList(l.Screens[i].Files, api.OK)
	}
	for i := range l.Keys {
		spoilList(l.Keys[i].Devices, api.OK)
	}
	spoilList(l.Assets, api.OK)
	spoilList(l.Comps, api.OK)
	spoilList(l.Screens, api.OK)
	spoilList(l.Keys, api.OK)
	spoilList(l.Recalled, api.OK)
}

// P1: with any numbers at all every call returns, and an error comes with zero values.
func TestAnyArguments(t *testing.T) {
	rnd := rand.New(rand.NewSource(4))
	odd := func(n int) int {
		if rnd.Intn(40) == 0 {
			return []int{math.MinInt, math.MaxInt, -1, 100, 10000, 1 << 32}[rnd.Intn(6)]
		}
		return n
	}
	for range 3000 {
		l := randomLibrary(rnd, randomBase(rnd), rnd.Intn(4))
		for i, c := range l.Comps {
			l.Comps[i].Id, l.Comps[i].Minutes, l.Comps[i].Film, l.Comps[i].Assets[0] = odd(c.Id), odd(c.Minutes), odd(c.Film), odd(c.Assets[0])
		}
		for i, s := range l.Screens {
			l.Screens[i].Id, l.Screens[i].Devices[0] = odd(s.Id), odd(s.Devices[0])
		}
		for i, k := range l.Keys {
			l.Keys[i].Id, l.Keys[i].Comp, l.Keys[i].From, l.Keys[i].To = odd(k.Id), odd(k.Comp), odd(k.From), odd(k.To)
		}
		checkAnyCalls(t, l, odd(l.Comps[0].Id), odd(l.Screens[0].Id), odd(rnd.Intn(40)))
	}
}

func checkAnyCalls(t *testing.T, l api.Library, comp, screen, from int) {
	t.Helper()
	if e := keys.Check(l); e != api.OK {
		checkErrors(t, "any library", l, comp, screen, from, e)
		checkPairErrors(t, "any library", l, comp, screen, e)
		checkFindError(t, "any library", l, api.Comp{Film: from}, screen, from, e)
		checkMergeError(t, "any library", l, l.Keys, l.Recalled, e)
		return
	}
	if reason, which, e := keys.Why(l, comp, screen, from); e != api.OK && (reason != 0 || which != 0) {
		t.Errorf("Why of %v = %d, %d, %d", l, reason, which, e)
	}
	if n, e := keys.Next(l, comp, screen, from); e != api.OK && n != 0 {
		t.Errorf("Next of %v = %d, %d", l, n, e)
	}
	if n, e := keys.Fewest(l, comp, screen, from); e != api.OK && n != 0 {
		t.Errorf("Fewest of %v = %d, %d", l, n, e)
	}
	more := []api.Key{newKey(comp, comp, from, from, screen)}
	if m, e := keys.Merge(l, more, []int{comp}); e != api.OK && !sameLibrary(m, api.Library{}) {
		t.Errorf("Merge of %v and %v = %v, %d", l, more, m, e)
	}
}
