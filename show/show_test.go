package show_test

import (
	"math"
	"math/rand"
	"reflect"
	"slices"
	"testing"

	"bijou/api"
	"bijou/keys"
	"bijou/show"
)

// P3.1: Check returns the first error of a show.
func TestCheck(t *testing.T) {
	for name, x := range faulty() {
		if e := show.Check(with(exampleS(), x.change)); e != x.e {
			t.Errorf("%s: Check = %d, not %d", name, e, x.e)
		}
	}
	for i, s := range sound() {
		if e := show.Check(s); e != api.OK {
			t.Errorf("sound show %d: Check = %d", i, e)
		}
	}
}

// checkMinuteErrors tells whether all calls with a minute return an error with zero values.
func checkMinuteErrors(t *testing.T, name string, s api.Show, from int, want api.Errno) {
	t.Helper()
	if begins, end, e := show.Times(s, from); len(begins) != 0 || end != (api.Span{}) || e != want {
		t.Errorf("%s: Times = %v, %v, %d, not error %d", name, begins, end, e, want)
	}
	if l, e := show.Lacks(s, from); len(l) != 0 || e != want {
		t.Errorf("%s: Lacks = %v, %d, not error %d", name, l, e, want)
	}
	if l, e := show.Order(s, from); len(l) != 0 || e != want {
		t.Errorf("%s: Order = %v, %d, not error %d", name, l, e, want)
	}
	checkFirstError(t, name, s, from, 40, want)
	checkFirstError(t, name, s, 0, from, want)
}

func checkFirstError(t *testing.T, name string, s api.Show, from, to int, want api.Errno) {
	t.Helper()
	if n, e := show.First(s, from, to); n != 0 || e != want {
		t.Errorf("%s: First = %d, %d, not error %d", name, n, e, want)
	}
}

func checkReelsError(t *testing.T, name string, s api.Show, item int, want api.Errno) {
	t.Helper()
	if l, e := show.Reels(s, item); len(l) != 0 || e != want {
		t.Errorf("%s: Reels of %d = %v, %d, not error %d", name, item, l, e, want)
	}
}

// P1: every function returns the error of the show before any other one, with zero values.
func TestErrorsOfShows(t *testing.T) {
	for name, x := range faulty() {
		s := with(exampleS(), x.change)
		for _, minute := range []int{10, -1, api.MaxClock + 1, math.MinInt} {
			checkMinuteErrors(t, name, s, minute, x.e)
		}
		for _, item := range []int{1, 0, -1, 3} {
			checkReelsError(t, name, s, item, x.e)
		}
	}
}

// P1: a minute or an item that is not there is ErrArg, before ErrNone.
func TestErrorsOfArguments(t *testing.T) {
	for name, s := range map[string]api.Show{
		"S":               exampleS(),
		"no items":        noItems(),
		"no truth":        with(exampleS(), func(s *api.Show) { s.Reels[0] = wrongReel() }),
		"no place":        with(exampleS(), func(s *api.Show) { s.Booth.Towers = 0 }),
		"no server":       with(exampleS(), func(s *api.Show) { s.Booth.Screen = -1 }),
		"a package alone": with(exampleS(), func(s *api.Show) { s.Items = s.Items[2:] }),
	} {
		for _, minute := range []int{-1, api.MaxClock + 1, math.MinInt, math.MaxInt} {
			checkMinuteErrors(t, name, s, minute, api.ErrArg)
		}
		checkFirstError(t, name, s, -1, -2, api.ErrArg)
		checkFirstError(t, name, s, api.MaxClock+1, api.MaxClock+1, api.ErrArg)
		for _, item := range []int{-1, 3, 6, math.MinInt, math.MaxInt} {
			checkReelsError(t, name, s, item, api.ErrArg)
		}
	}
	for _, item := range []int{0, 2} {
		checkReelsError(t, "no film", exampleS(), item, api.ErrArg)
		checkReelsError(t, "no film, no place", with(exampleS(), func(s *api.Show) { s.Booth.Towers = 0 }), item, api.ErrArg)
	}
}

// P3.2.
func TestTimes(t *testing.T) {
	short := func(change func(s *api.Show)) api.Show { return with(exampleS(), change) }
	for name, x := range map[string]struct {
		s      api.Show
		from   int
		begins []api.Span
		end    api.Span
	}{
		"S":                    {exampleS(), 10, []api.Span{at(10), span(13, 14), span(30, 32)}, span(35, 37)},
		"S from 0":             {exampleS(), 0, []api.Span{at(0), span(3, 4), span(20, 22)}, span(25, 27)},
		"S from the last time": {exampleS(), 9999, []api.Span{at(9999), span(10002, 10003), span(10019, 10021)}, span(10024, 10026)},
		"T":                    {exampleT(), 10, []api.Span{at(10), span(13, 14), span(34, 38)}, span(39, 43)},
		"P":                    {exampleP(), 10, []api.Span{at(10), span(13, 14), span(30, 32)}, span(35, 37)},
		"T on a platter":       {with(exampleT(), func(s *api.Show) { s.Booth.Platter = 18 }), 10, []api.Span{at(10), span(13, 14), span(30, 32)}, span(35, 37)},
		"T, platter too small": {with(exampleT(), func(s *api.Show) { s.Booth.Platter = 17 }), 10, []api.Span{at(10), span(13, 14), span(34, 38)}, span(39, 43)},
		"no towers":            {with(exampleP(), func(s *api.Show) { s.Booth.Towers = 0 }), 10, []api.Span{at(10), span(13, 14), span(30, 32)}, span(35, 37)},
		"no items":             {short(func(s *api.Show) { s.Items = nil }), 7, nil, at(7)},
		"a shut package":       {short(func(s *api.Show) { s.Library.Keys = nil }), 10, []api.Span{at(10), span(13, 14), span(30, 32)}, span(35, 37)},
		"no server":            {short(func(s *api.Show) { s.Booth.Screen = -1 }), 10, []api.Span{at(10), span(13, 14), span(30, 32)}, span(35, 37)},
		"an unused wrong reel": {short(func(s *api.Show) { s.Reels, s.Items[1] = append(s.Reels, wrongReel()), film(2) }), 10, []api.Span{at(10), span(13, 14), span(18, 19)}, span(23, 24)},
	} {
		if begins, end, e := show.Times(x.s, x.from); !slices.Equal(begins, x.begins) || end != x.end || e != api.OK {
			t.Errorf("%s: Times = %v, %v, %d, not %v, %v", name, begins, end, e, x.begins, x.end)
		}
	}
}

// P3.2 and P3.6: a film that has a reel without a truth, or no place, has no times.
func TestFilmsWithoutTimes(t *testing.T) {
	for name, change := range map[string]func(s *api.Show){
		"the first reel":      func(s *api.Show) { s.Reels[0] = wrongReel() },
		"the last reel":       func(s *api.Show) { s.Reels[2] = wrongReel() },
		"no place":            func(s *api.Show) { s.Booth.Towers = 0 },
		"a platter too small": func(s *api.Show) { s.Booth.Towers, s.Booth.Platter = 0, 17 },
		"no platter, no feet": func(s *api.Show) {
			s.Booth.Towers, s.Reels, s.Items[1] = 0, []api.Reel{newReel(3, torn(0, 2, 3, 3))}, film(0)
		},
		"a tear without a block": func(s *api.Show) { s.Reels[1] = newReel(6, torn(0, 1, 3, 3)) },
	} {
		s := with(exampleS(), change)
		if begins, end, e := show.Times(s, 10); len(begins) != 0 || end != (api.Span{}) || e != api.ErrNone {
			t.Errorf("%s: Times = %v, %v, %d", name, begins, end, e)
		}
		checkReelsError(t, name, s, 1, api.ErrNone)
		checkFirstError(t, name, s, 0, api.MaxClock, api.ErrNone)
		if l, e := show.Order(s, 10); len(l) != 0 || e != api.ErrNone {
			t.Errorf("%s: Order = %v, %d", name, l, e)
		}
	}
	s := with(exampleS(), func(s *api.Show) { s.Items, s.Reels[0] = []api.Item{film(0), film(2, 1)}, wrongReel() })
	checkReelsError(t, "the film without a truth", s, 0, api.ErrNone)
	if l, e := show.Reels(s, 1); !slices.Equal(l, []api.Span{at(0), at(5)}) || e != api.OK {
		t.Errorf("the other film: Reels = %v, %d", l, e)
	}
}

// P3.6.
func TestReels(t *testing.T) {
	three := []api.Reel{newReel(9), newReel(4), newReel(9)}
	four := append(slices.Clone(three), newReel(5))
	bare := newReel(2, torn(0, 1, 2, 2))
	backwards := with(exampleS(), func(s *api.Show) { slices.Reverse(s.Items[1].Reels) })
	for name, x := range map[string]struct {
		s    api.Show
		item int
		want []api.Span
	}{
		"S":                       {exampleS(), 1, []api.Span{at(0), span(6, 7), span(12, 13)}},
		"T":                       {exampleT(), 1, []api.Span{at(0), span(8, 10), span(16, 19)}},
		"P":                       {exampleP(), 1, []api.Span{at(0), span(6, 7), span(12, 13)}},
		"backwards":               {backwards, 1, []api.Span{at(0), at(5), at(11)}},
		"one reel":                {onTowers(1, at(30), newReel(16)), 0, []api.Span{at(0)}},
		"no pause":                {onTowers(2, at(4), four...), 0, []api.Span{at(0), at(9), at(13), at(22)}},
		"a pause":                 {onTowers(2, at(5), four...), 0, []api.Span{at(0), at(9), at(14), at(23)}},
		"a pause, perhaps":        {onTowers(2, span(4, 6), four...), 0, []api.Span{at(0), at(9), span(13, 15), span(22, 24)}},
		"two pauses":              {onTowers(2, at(10), four...), 0, []api.Span{at(0), at(9), at(19), at(28)}},
		"three pauses":            {onTowers(2, at(30), append(slices.Clone(four), newReel(1))...), 0, []api.Span{at(0), at(9), at(39), at(48), at(78)}},
		"one tower":               {onTowers(1, span(0, 2), four...), 0, []api.Span{at(0), span(9, 11), span(13, 17), span(22, 28)}},
		"no feet on two towers":   {onTowers(2, at(3), bare, bare, bare), 0, []api.Span{at(0), at(0), at(3)}},
		"no feet on a platter":    {with(onTowers(0, at(3), bare, bare, bare), func(s *api.Show) { s.Booth.Platter = 1 }), 0, []api.Span{at(0), at(0), at(0)}},
		"threading of two reels":  {onTowers(2, at(30), newReel(1), newReel(1)), 0, []api.Span{at(0), at(1)}},
		"threading on a platter":  {with(onTowers(1, at(30), three...), func(s *api.Show) { s.Booth.Platter = 22 }), 0, []api.Span{at(0), at(9), at(13)}},
		"a platter one too small": {with(onTowers(1, at(30), three...), func(s *api.Show) { s.Booth.Platter = 21 }), 0, []api.Span{at(0), at(39), at(73)}},
	} {
		if l, e := show.Reels(x.s, x.item); !slices.Equal(l, x.want) || e != api.OK {
			t.Errorf("%s: Reels = %v, %d, not %v", name, l, e, x.want)
		}
	}
}

func lack(item, reason, which int) api.Lack {
	return api.Lack{Item: item, Reason: reason, Which: which}
}

type lacking struct {
	s    api.Show
	from int
	want []api.Lack
}

func checkLacks(t *testing.T, all map[string]lacking) {
	t.Helper()
	for name, x := range all {
		if l, e := show.Lacks(x.s, x.from); !slices.Equal(l, x.want) || e != api.OK {
			t.Errorf("%s: Lacks = %v, %d, not %v", name, l, e, x.want)
		}
	}
}

// P3.3: what lacks of films.
func TestLacksOfFilms(t *testing.T) {
	noCue, maybe, wrong := newReel(5, gone(4), torn(4, 4, 1, 1)), newReel(5, torn(4, 4, 0, 1)), wrongReel()
	whole, short := newReel(5), newReel(2)
	sure := newReel(5, torn(3, 4, 1, 1), seen(4))
	one := func(reason, which int) []api.Lack { return []api.Lack{lack(0, reason, which)} }
	order := func(s api.Show, reels ...int) api.Show {
		return with(s, func(s *api.Show) { s.Items[0] = film(reels...) })
	}
	platter := func(s api.Show, feet, towers int) api.Show {
		return with(s, func(s *api.Show) { s.Booth.Platter, s.Booth.Towers = feet, towers })
	}
	checkLacks(t, map[string]lacking{
		"no print":                     {onTowers(2, at(0), whole, wrong, wrong), 0, one(api.NoPrint, 1)},
		"no print, in another order":   {order(onTowers(2, at(0), whole, wrong, wrong), 2, 0, 1), 0, one(api.NoPrint, 2)},
		"no print before no place":     {onTowers(0, at(0), whole, wrong), 0, one(api.NoPrint, 1)},
		"no print before no cue":       {onTowers(1, at(9), noCue, wrong), 0, one(api.NoPrint, 1)},
		"no print on a platter":        {platter(onTowers(0, at(0), wrong), 64, 0), 0, one(api.NoPrint, 0)},
		"no place":                     {onTowers(0, at(9), noCue, whole), 0, one(api.NoPlace, -1)},
		"a platter of a foot less":     {platter(onTowers(0, at(9), noCue, whole), 8, 0), 0, one(api.NoPlace, -1)},
		"a platter for both":           {platter(onTowers(0, at(9), noCue, whole), 9, 0), 0, nil},
		"a platter, at the most":       {platter(onTowers(0, at(9), maybe, whole), 9, 0), 0, one(api.NoPlace, -1)},
		"no cue":                       {onTowers(2, at(0), whole, noCue, whole), 0, one(api.NoCue, 1)},
		"no cue, perhaps":              {onTowers(1, at(0), maybe, noCue, whole), 0, one(api.NoCue, 0)},
		"no cue, in another order":     {order(onTowers(2, at(0), maybe, noCue, whole), 1, 0, 2), 0, one(api.NoCue, 1)},
		"no cue before a pause":        {onTowers(1, at(3), whole, noCue, whole), 0, one(api.NoCue, 1)},
		"no cue of the last reel":      {onTowers(2, at(0), sure, whole, noCue), 0, nil},
		"no cue of the only reel":      {onTowers(2, at(0), noCue), 0, nil},
		"no cue on a platter":          {platter(onTowers(2, at(0), noCue, noCue), 10, 2), 0, nil},
		"a pause on one tower":         {onTowers(1, span(0, 1), whole, whole), 0, one(api.Pause, 1)},
		"a pause of no time":           {onTowers(1, at(0), whole, whole, whole), 0, nil},
		"a pause of one reel":          {onTowers(1, at(30), whole), 0, nil},
		"a pause, in another order":    {order(onTowers(1, at(1), whole, whole, whole), 2, 0, 1), 0, one(api.Pause, 0)},
		"a pause on two towers":        {onTowers(2, span(0, 3), whole, short, whole), 0, one(api.Pause, 2)},
		"no time for a pause":          {onTowers(2, span(0, 2), whole, short, short, whole), 0, nil},
		"a later pause":                {onTowers(2, at(5), newReel(2), newReel(6), newReel(5), newReel(4), newReel(9)), 0, one(api.Pause, 4)},
		"a pause, if a foot is torn":   {onTowers(2, at(5), whole, newReel(5, torn(0, 1, 0, 1)), whole), 0, one(api.Pause, 2)},
		"the first reel is short":      {onTowers(2, at(5), short, whole, whole), 0, nil},
		"the last reel is short":       {onTowers(2, at(5), whole, whole, short), 0, nil},
		"a pause on a platter":         {platter(onTowers(1, at(9), whole, whole), 10, 1), 0, nil},
		"a pause, a platter too small": {platter(onTowers(1, at(9), whole, whole), 9, 1), 0, one(api.Pause, 1)},
		"two reels on two towers":      {onTowers(2, at(30), short, short), 0, nil},
		"two films": {with(onTowers(2, at(5), short, whole, whole, noCue, whole), func(s *api.Show) {
			s.Items = []api.Item{film(1, 0), spots(0, 1), film(2, 4), film(3)}
		}), 0, nil},
		"two films of which both lack": {with(onTowers(1, at(5), short, whole, whole, wrong), func(s *api.Show) {
			s.Items = []api.Item{film(1, 0), spots(0, 1), film(3, 2)}
		}), 0, []api.Lack{lack(0, api.Pause, 0), lack(2, api.NoPrint, 3)}},
	})
}

// P3.3: what lacks of packages.
func TestLacksOfPackages(t *testing.T) {
	one := func(change func(s *api.Show)) api.Show { return with(exampleS(), change) }
	keysOf := func(l ...api.Key) api.Show { return one(func(s *api.Show) { s.Library.Keys = l }) }
	unlocked := func(length api.Span) api.Show {
		return one(func(s *api.Show) {
			s.Library.Comps[0].Locked = false
			s.Items = []api.Item{{Kind: api.Spots, Length: length}, pack(7)}
		})
	}
	shut := func(item, minute int) []api.Lack { return []api.Lack{lack(item, api.NoPack, minute)} }
	checkLacks(t, map[string]lacking{
		"S at 10":                       {exampleS(), 10, nil},
		"S at 15":                       {exampleS(), 15, shut(2, 37)},
		"S at 5":                        {exampleS(), 5, nil},
		"S at 4":                        {exampleS(), 4, shut(2, 24)},
		"S at 14":                       {exampleS(), 14, nil},
		"S at 17":                       {exampleS(), 17, shut(2, 37)},
		"T at 10":                       {exampleT(), 10, []api.Lack{lack(1, api.Pause, 1), lack(2, api.NoPack, 37)}},
		"P at 10":                       {exampleP(), 10, nil},
		"no server":                     {one(func(s *api.Show) { s.Booth.Screen = -1 }), 10, []api.Lack{lack(2, api.NoServer, -1)}},
		"no server, and shut":           {one(func(s *api.Show) { s.Booth.Screen = -1 }), 0, []api.Lack{lack(2, api.NoServer, -1)}},
		"no file":                       {one(func(s *api.Show) { s.Library.Screens[0].Files = nil }), 10, shut(2, 30)},
		"a file with another sum":       {one(func(s *api.Show) { s.Library.Screens[0].Files[0].Sum = 8 }), 10, shut(2, 30)},
		"no key":                        {keysOf(), 10, shut(2, 30)},
		"a recalled key":                {one(func(s *api.Show) { s.Library.Recalled = []int{1} }), 10, shut(2, 30)},
		"a foreign key":                 {keysOf(newKey(1, 7, 0, 9999, 2)), 10, shut(2, 30)},
		"keys that touch":               {keysOf(newKey(1, 7, 25, 32, 1), newKey(2, 7, 33, 40, 1)), 10, nil},
		"keys that do not touch":        {keysOf(newKey(1, 7, 25, 35, 1), newKey(2, 7, 37, 50, 1)), 10, shut(2, 32)},
		"shut between":                  {keysOf(newKey(1, 7, 25, 34, 1), newKey(2, 7, 36, 50, 1)), 10, shut(2, 31)},
		"keys that are too short":       {keysOf(newKey(1, 7, 25, 28, 1), newKey(2, 7, 30, 33, 1), newKey(3, 7, 35, 38, 1)), 10, shut(2, 30)},
		"open from the second on":       {keysOf(newKey(1, 7, 31, 99, 1)), 10, shut(2, 30)},
		"the last minute is open":       {unlocked(at(0)), 9995, nil},
		"a minute too many":             {unlocked(at(0)), 9996, shut(1, 9996)},
		"perhaps a minute too many":     {unlocked(span(0, 3)), 9994, shut(1, 9996)},
		"behind the last minute":        {unlocked(span(1, 60)), 9999, shut(1, 10000)},
		"from the first minute on":      {unlocked(at(0)), 0, nil},
		"a film that does not count":    {one(func(s *api.Show) { s.Reels[1] = wrongReel() }), 22, []api.Lack{lack(1, api.NoPrint, 1)}},
		"a film without a place":        {one(func(s *api.Show) { s.Booth.Towers = 0 }), 33, []api.Lack{lack(1, api.NoPlace, -1), lack(2, api.NoPack, 37)}},
		"a film without a cue":          {one(func(s *api.Show) { s.Reels[1].Marks = []api.Mark{torn(5, 5, 0, 1)} }), 15, []api.Lack{lack(1, api.NoCue, 1), lack(2, api.NoPack, 37)}},
		"no items":                      {noItems(), 0, nil},
		"three packages":                {one(func(s *api.Show) { s.Items = []api.Item{pack(7), pack(7), pack(7)} }), 26, nil},
		"three packages, the last late": {one(func(s *api.Show) { s.Items = []api.Item{pack(7), pack(7), pack(7)} }), 27, shut(2, 37)},
	})
}

// P3.4.
func TestFirst(t *testing.T) {
	late := with(exampleS(), func(s *api.Show) { s.Library.Keys[0] = newKey(1, 7, 9990, 9999, 1) })
	gap := with(exampleS(), func(s *api.Show) { s.Library.Keys = append(s.Library.Keys, newKey(2, 7, 50, 70, 1)) })
	for name, x := range map[string]struct {
		s              api.Show
		from, to, want int
	}{
		"S from 0 to 40":    {exampleS(), 0, 40, 5},
		"S from 0 to 5":     {exampleS(), 0, 5, 5},
		"S from 5 to 5":     {exampleS(), 5, 5, 5},
		"S from 14 on":      {exampleS(), 14, 9999, 14},
		"two keys, from 0":  {gap, 0, 9999, 5},
		"two keys, from 15": {gap, 15, 9999, 30},
		"no items":          {noItems(), 9999, 9999, 9999},
		"late":              {late, 0, 9999, 9970},
	} {
		if n, e := show.First(x.s, x.from, x.to); n != x.want || e != api.OK {
			t.Errorf("%s: First = %d, %d, not %d", name, n, e, x.want)
		}
	}
	checkFirstError(t, "S from 0 to 4", exampleS(), 0, 4, api.ErrNone)
	checkFirstError(t, "S from 15 on", exampleS(), 15, 9999, api.ErrNone)
	checkFirstError(t, "S from 10 to 9", exampleS(), 10, 9, api.ErrNone)
	checkFirstError(t, "no items, from 1 to 0", noItems(), 1, 0, api.ErrNone)
	checkFirstError(t, "T", exampleT(), 0, 9999, api.ErrNone)
	checkFirstError(t, "no server", with(exampleS(), func(s *api.Show) { s.Booth.Screen = -1 }), 0, 9999, api.ErrNone)
}

// P3.5.
func TestOrder(t *testing.T) {
	two := with(exampleS(), func(s *api.Show) {
		s.Library.Comps = append(s.Library.Comps, api.Comp{Id: 8, Minutes: 5, Locked: true, Assets: []int{1}})
		s.Library.Keys = append(s.Library.Keys, newKey(2, 8, 0, 20, 1))
		s.Items = []api.Item{pack(7), film(0, 1, 2), spots(3, 4), pack(8)}
	})
	for name, x := range map[string]struct {
		s    api.Show
		from int
		want []int
	}{
		"S from 10":           {exampleS(), 10, []int{0, 1, 2}},
		"S from 22":           {exampleS(), 22, []int{0, 2, 1}},
		"S from 16":           {exampleS(), 16, []int{1, 2, 0}},
		"S from 33":           {exampleS(), 33, []int{2, 0, 1}},
		"two packages":        {two, 0, []int{2, 3, 1, 0}},
		"two packages, later": {two, 10, []int{3, 1, 0, 2}},
		"no items":            {noItems(), 5, nil},
		"equal items":         {with(noItems(), func(s *api.Show) { s.Items = []api.Item{spots(9, 9), spots(0, 0), spots(9, 9)} }), 0, []int{0, 1, 2}},
	} {
		if l, e := show.Order(x.s, x.from); !slices.Equal(l, x.want) || e != api.OK {
			t.Errorf("%s: Order = %v, %d, not %v", name, l, e, x.want)
		}
	}
	for name, x := range map[string]struct {
		s    api.Show
		from int
	}{
		"S from 20": {exampleS(), 20},
		"S from 37": {exampleS(), 37},
		"T":         {exampleT(), 22},
		"no server": {with(exampleS(), func(s *api.Show) { s.Booth.Screen = -1 }), 10},
	} {
		if l, e := show.Order(x.s, x.from); len(l) != 0 || e != api.ErrNone {
			t.Errorf("%s: Order = %v, %d", name, l, e)
		}
	}
}

// P3.2 to P3.6: all functions agree with what comes out if all evenings, all minutes and all orders are tried.
func TestAgainstTrying(t *testing.T) {
	rnd := rand.New(rand.NewSource(3))
	reasons := map[int]int{}
	for range 6000 {
		base := randomBase(rnd)
		s, from := randomShow(rnd, base), randomStart(rnd, base)
		l := itemsByTrying(s)
		compareTimes(t, s, l, from)
		for _, lack := range compareLacks(t, s, l, from) {
			reasons[lack.Reason]++
		}
		if nothingLacks(s, from) && len(l) > 2 {
			reasons[0]++
		}
		compareReels(t, s, l)
	}
	for reason := range api.NoPack + 1 {
		if reasons[reason] < 100 {
			t.Errorf("only %d times something lacked for the reason %d", reasons[reason], reason)
		}
	}
}

func compareTimes(t *testing.T, s api.Show, l []known, from int) {
	t.Helper()
	begins, end, want := []api.Span(nil), api.Span{}, api.ErrNone
	if !slices.ContainsFunc(l, cannotRun) {
		begins, end = timesByTrying(l, from)
		want = api.OK
	}
	if b, n, e := show.Times(s, from); !slices.Equal(b, begins) || n != end || e != want {
		t.Errorf("Times of %v from %d: %v, %v, %d, not %v, %v, %d", s, from, b, n, e, begins, end, want)
	}
}

func compareLacks(t *testing.T, s api.Show, l []known, from int) []api.Lack {
	t.Helper()
	want := lacksByTrying(s, l, from)
	if lacks, e := show.Lacks(s, from); !slices.Equal(lacks, want) || e != api.OK {
		t.Errorf("Lacks of %v from %d: %v, %d, not %v", s, from, lacks, e, want)
	}
	return want
}

func compareReels(t *testing.T, s api.Show, l []known) {
	t.Helper()
	for i, k := range l {
		want := api.OK
		if s.Items[i].Kind != api.Film {
			want = api.ErrArg
		} else if cannotRun(k) {
			want = api.ErrNone
		}
		if begins, e := show.Reels(s, i); !slices.Equal(begins, k.begins) || e != want {
			t.Errorf("Reels of %v, %d: %v, %d, not %v, %d", s, i, begins, e, k.begins, want)
		}
	}
}

// P3.5.
func TestOrderAgainstTrying(t *testing.T) {
	rnd := rand.New(rand.NewSource(5))
	found, moved := 0, 0
	for range 2000 {
		base := randomBase(rnd)
		s, from := randomShow(rnd, base), randomStart(rnd, base)
		l := itemsByTrying(s)
		var want []int
		e := api.ErrNone
		for _, order := range permutations(len(s.Items)) {
			var k []known
			for _, n := range order {
				k = append(k, l[n])
			}
			if len(lacksByTrying(ordered(s, order), k, from)) == 0 {
				want, e = order, api.OK
				break
			}
		}
		if order, f := show.Order(s, from); !slices.Equal(order, want) || f != e {
			t.Errorf("Order of %v from %d: %v, %d, not %v, %d", s, from, order, f, want, e)
		}
		if len(want) > 1 {
			found++
		}
		if !slices.IsSorted(want) {
			moved++
		}
	}
	if found < 100 || moved < 30 {
		t.Errorf("only %d orders, %d of which are not those of the show", found, moved)
	}
}

// P1 and R4: no call changes its argument, or shares memory with it or with another result.
func TestMemory(t *testing.T) {
	rnd := rand.New(rand.NewSource(4))
	shows := []api.Show{noItems(), exampleS(), exampleT(), exampleP()}
	for range 300 {
		shows = append(shows, randomShow(rnd, 0))
	}
	for _, s := range shows {
		before := clone(s)
		for range 2 {
			show.Check(s)
			begins, _, _ := show.Times(s, 10)
			lacks, _ := show.Lacks(s, 10)
			show.First(s, 0, 30)
			order, _ := show.Order(s, 10)
			compareTimes(t, before, itemsByTrying(before), 10)
			spoil(begins)
			spoil(lacks)
			spoil(order)
			for i := range s.Items {
				reels, _ := show.Reels(s, i)
				spoil(reels)
			}
		}
		if !reflect.DeepEqual(s, before) {
			t.Errorf("%v was changed to %v", before, s)
		}
	}
}

// spoil overwrites all that a call returned, and what may lie behind it.
func spoil[T any](l []T) {
	clear(l[:cap(l)])
}

// R3: a nil slice and an empty one are the same.
func TestNilAndEmpty(t *testing.T) {
	s := with(exampleS(), func(s *api.Show) {
		s.Items[0].Reels, s.Items[2].Reels = []int{}, []int{}
		s.Reels[1].Marks, s.Library.Recalled = []api.Mark{}, []int{}
	})
	compareTimes(t, s, itemsByTrying(exampleS()), 10)
	compareReels(t, s, itemsByTrying(exampleS()))
	if n, e := show.First(s, 0, 40); n != 5 || e != api.OK {
		t.Errorf("First = %d, %d", n, e)
	}
	empty := api.Show{Reels: []api.Reel{}, Items: []api.Item{}, Booth: api.Booth{Screen: -1}}
	empty.Library.Keys = []api.Key{}
	if begins, end, e := show.Times(empty, 3); len(begins) != 0 || end != at(3) || e != api.OK {
		t.Errorf("Times = %v, %v, %d", begins, end, e)
	}
}

// P1: with any numbers at all every call returns, and an error comes with zero values.
func TestAnyArguments(t *testing.T) {
	rnd := rand.New(rand.NewSource(1))
	numbers := []int{math.MinInt, -2, -1, 0, 1, 2, 3, 7, 16, 17, 64, 65, 9999, 10000, math.MaxInt}
	number := func() int { return numbers[rnd.Intn(len(numbers))] }
	for range 4000 {
		s := randomShow(rnd, 0)
		for range rnd.Intn(3) {
			spoilShow(rnd, &s, number)
		}
		checkAnyCalls(t, s, number(), number())
	}
}

// spoilShow puts any numbers at some place of a show.
func spoilShow(rnd *rand.Rand, s *api.Show, number func() int) {
	anySpan := func() api.Span { return span(number(), number()) }
	switch rnd.Intn(10) {
	case 0:
		s.Booth.Platter = number()
	case 1:
		s.Booth.Towers = number()
	case 2:
		s.Booth.Thread = anySpan()
	case 3:
		s.Booth.Screen = number()
	case 4:
		s.Reels = append(s.Reels, api.Reel{Feet: number(), Marks: []api.Mark{{Kind: number(), From: number(), To: number(), Count: anySpan()}}})
	case 5:
		s.Items = append(s.Items, api.Item{Kind: number(), Length: anySpan(), Comp: number()})
	case 6:
		s.Items = append(s.Items, film(number(), number()))
	case 7:
		s.Items = append(s.Items, api.Item{Kind: api.Pack, Comp: number()}, api.Item{Kind: api.Spots, Length: anySpan()})
	case 8:
		s.Library.Keys = append(s.Library.Keys, newKey(number(), number(), number(), number(), number()))
	case 9:
		s.Library.Comps[rnd.Intn(4)].Minutes = number()
	}
}

func checkAnyCalls(t *testing.T, s api.Show, a, b int) {
	t.Helper()
	e := show.Check(s)
	begins, end, e1 := show.Times(s, a)
	lacks, e2 := show.Lacks(s, a)
	first, e3 := show.First(s, a, b)
	order, e4 := show.Order(s, a)
	reels, e5 := show.Reels(s, a)
	if e1 != api.OK && (len(begins) != 0 || end != api.Span{}) || e2 != api.OK && len(lacks) != 0 || e3 != api.OK && first != 0 ||
		e4 != api.OK && len(order) != 0 || e5 != api.OK && len(reels) != 0 {
		t.Errorf("%v, %d, %d: a value comes with an error", s, a, b)
	}
	for _, other := range []api.Errno{e1, e2, e3, e4, e5} {
		if e != api.OK && other != e {
			t.Errorf("%v: the error %d, not that of Check, %d", s, other, e)
		}
	}
	if isTime := a >= 0 && a <= api.MaxClock; e == api.OK && isTime != (e1 != api.ErrArg) || e == api.OK && isTime != (e2 != api.ErrArg) || e == api.OK && isTime != (e4 != api.ErrArg) {
		t.Errorf("%v, %d: %d, %d, %d", s, a, e1, e2, e4)
	}
	if k := keys.Check(s.Library); k != api.OK && k != e {
		t.Errorf("%v: Check = %d, not %d", s, e, k)
	}
}
