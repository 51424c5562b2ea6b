package reel_test

import (
	"math"
	"math/rand"
	"slices"
	"testing"

	"bijou/api"
	"bijou/reel"
)

// faulty are reels, each with the first error that it has.
func faulty() map[string]struct {
	r api.Reel
	e api.Errno
} {
	type fault = struct {
		r api.Reel
		e api.Errno
	}
	return map[string]fault{
		"no feet":                   {newReel(0), api.ErrReel},
		"feet below 0":              {newReel(-1), api.ErrReel},
		"least number of feet":      {newReel(math.MinInt), api.ErrReel},
		"17 feet":                   {newReel(17), api.ErrReel},
		"greatest number of feet":   {newReel(math.MaxInt), api.ErrReel},
		"11 marks":                  {newReel(4, slices.Repeat([]api.Mark{seen(0, 1)}, 11)...), api.ErrReel},
		"11 marks, none described":  {newReel(4, make([]api.Mark, 11)...), api.ErrReel},
		"0 feet and a strange mark": {newReel(0, api.Mark{}), api.ErrReel},
		"kind 0":                    {with(exampleR(), api.Mark{}), api.ErrMark},
		"kind 6":                    {with(exampleR(), api.Mark{Kind: 6}), api.ErrMark},
		"kind -1":                   {with(exampleR(), api.Mark{Kind: -1}), api.ErrMark},
		"torn before the reel":      {newReel(4, torn(-1, 2, 1, 1)), api.ErrMark},
		"torn behind the reel":      {newReel(4, torn(1, 4, 1, 1)), api.ErrMark},
		"torn backwards":            {newReel(4, torn(2, 1, 1, 1)), api.ErrMark},
		"torn -1":                   {newReel(4, torn(1, 2, -1, 1)), api.ErrMark},
		"torn 17":                   {newReel(4, torn(1, 2, 1, 17)), api.ErrMark},
		"torn 2 to 1":               {newReel(4, torn(1, 2, 2, 1)), api.ErrMark},
		"torn by huge numbers":      {newReel(4, torn(math.MinInt, math.MaxInt, math.MinInt, math.MaxInt)), api.ErrMark},
		"seen before the reel":      {newReel(4, seen(-1, 2)), api.ErrMark},
		"seen behind the reel":      {newReel(4, seen(4, 4)), api.ErrMark},
		"seen backwards":            {newReel(4, seen(2, 1)), api.ErrMark},
		"seen with a least count":   {newReel(4, api.Mark{Kind: api.Seen, Count: span(1, 0)}), api.ErrMark},
		"seen with a count":         {newReel(4, api.Mark{Kind: api.Seen, Count: span(0, 1)}), api.ErrMark},
		"gone before the reel":      {newReel(4, gone(-1, 2)), api.ErrMark},
		"gone behind the reel":      {newReel(4, gone(1, 4)), api.ErrMark},
		"gone backwards":            {newReel(4, gone(2, 1)), api.ErrMark},
		"gone with a least count":   {newReel(4, api.Mark{Kind: api.Gone, Count: span(-1, 0)}), api.ErrMark},
		"gone with a count":         {newReel(4, api.Mark{Kind: api.Gone, Count: span(1, 1)}), api.ErrMark},
		"counted from a foot":       {newReel(4, api.Mark{Kind: api.Counted, From: 1, Count: span(1, 2)}), api.ErrMark},
		"counted to a foot":         {newReel(4, api.Mark{Kind: api.Counted, To: 1, Count: span(1, 2)}), api.ErrMark},
		"counted -1":                {newReel(4, counted(-1, 2)), api.ErrMark},
		"counted 17":                {newReel(4, counted(0, 17)), api.ErrMark},
		"counted 2 to 1":            {newReel(4, counted(2, 1)), api.ErrMark},
		"joined from a foot":        {newReel(4, api.Mark{Kind: api.Joined, From: -1, Count: span(1, 2)}), api.ErrMark},
		"joined to a foot":          {newReel(4, api.Mark{Kind: api.Joined, To: 3, Count: span(1, 2)}), api.ErrMark},
		"joined -1":                 {newReel(4, joined(-1, 2)), api.ErrMark},
		"joined 17":                 {newReel(4, joined(0, 17)), api.ErrMark},
		"joined 2 to 1":             {newReel(4, joined(2, 1)), api.ErrMark},
		"the last mark of ten":      {newReel(2, append(slices.Repeat([]api.Mark{seen(0, 1)}, 9), seen(0, 2))...), api.ErrMark},
	}
}

// sound are reels without an error that are at the limits.
func sound() []api.Reel {
	return []api.Reel{
		exampleR(), exampleS(), exampleT(), newReel(1), newReel(16),
		newReel(16, slices.Repeat([]api.Mark{torn(0, 15, 0, 16)}, 10)...),
		newReel(1, torn(0, 0, 0, 16), torn(0, 0, 16, 16), counted(16, 16), joined(0, 16), seen(0, 0), gone(0, 0)),
		newReel(16, torn(15, 15, 0, 0), seen(15, 15), gone(15, 15), counted(0, 0), joined(0, 0)),
	}
}

// P1.1: Check returns the first error of a reel.
func TestCheck(t *testing.T) {
	for name, x := range faulty() {
		if e := reel.Check(x.r); e != x.e {
			t.Errorf("%s: Check = %d, not %d", name, e, x.e)
		}
	}
	for i, r := range sound() {
		if e := reel.Check(r); e != api.OK {
			t.Errorf("sound reel %d: Check = %d", i, e)
		}
	}
}

// P1 and P1.1: every function returns the error of Check first, with zero values.
func TestErrorsOfReels(t *testing.T) {
	for name, x := range faulty() {
		checkNumber := func(call string, n int, e api.Errno) {
			if n != 0 || e != x.e {
				t.Errorf("%s: %s = %d, %d, not 0, %d", name, call, n, e, x.e)
			}
		}
		checkSpan := func(call string, s api.Span, e api.Errno) {
			if s != span(0, 0) || e != x.e {
				t.Errorf("%s: %s = %v, %d, not 0 to 0, %d", name, call, s, e, x.e)
			}
		}
		checkList := func(call string, l []int, e api.Errno) {
			if len(l) != 0 || e != x.e {
				t.Errorf("%s: %s = %v, %d, not none, %d", name, call, l, e, x.e)
			}
		}
		n, e := reel.Many(x.r)
		checkNumber("Many", n, e)
		n, e = reel.Fewest(x.r)
		checkNumber("Fewest", n, e)
		n, e = reel.Foot(x.r, 99)
		checkNumber("Foot", n, e)
		s, e := reel.Left(x.r)
		checkSpan("Left", s, e)
		s, e = reel.Splices(x.r)
		checkSpan("Splices", s, e)
		s, e = reel.Longest(x.r)
		checkSpan("Longest", s, e)
		s, e = reel.Whole(x.r, 2, -1)
		checkSpan("Whole", s, e)
		l, e := reel.Show(x.r)
		checkList("Show", l, e)
		l, e = reel.Lacks([]api.Reel{exampleT(), newReel(3), x.r})
		checkList("Lacks", l, e)
	}
}

// All that the functions return of reels for which the chapter says, or which are small enough to see, what it is.
func TestExamples(t *testing.T) {
	none := span(0, 0)
	for name, x := range map[string]struct {
		r                      api.Reel
		many, fewest           int
		left, splices, longest api.Span
	}{
		"R":                           {exampleR(), 6, 0, span(5, 6), span(1, 2), span(3, 4)},
		"S":                           {exampleS(), 3, 0, span(5, 6), span(2, 2), span(3, 4)},
		"T":                           {exampleT(), 0, 1, none, none, none},
		"no marks":                    {newReel(5), 1, 0, span(5, 5), none, span(5, 5)},
		"one foot":                    {newReel(1), 1, 0, span(1, 1), none, span(1, 1)},
		"one foot that can be torn":   {newReel(1, torn(0, 0, 0, 1)), 2, 0, span(0, 1), none, span(0, 1)},
		"nothing left":                {newReel(16, torn(0, 15, 16, 16)), 1, 0, none, none, none},
		"nothing left by two":         {newReel(4, torn(0, 1, 2, 2), torn(2, 3, 2, 2), joined(0, 0)), 1, 0, none, none, none},
		"a tear of no foot":           {newReel(4, torn(1, 2, 0, 0)), 1, 0, span(4, 4), none, span(4, 4)},
		"a tear that is too long":     {newReel(4, torn(1, 2, 3, 16)), 0, 1, none, none, none},
		"a tear that can be longer":   {newReel(4, torn(1, 2, 2, 16)), 1, 0, span(2, 2), span(1, 1), span(1, 1)},
		"feet in two blocks":          {newReel(5, torn(1, 2, 2, 2), torn(2, 3, 2, 2)), 1, 0, span(2, 2), span(1, 1), span(1, 1)},
		"two blocks side by side":     {newReel(6, torn(1, 2, 2, 2), torn(3, 4, 2, 2)), 1, 0, span(2, 2), span(1, 1), span(1, 1)},
		"equal tears":                 {newReel(3, torn(0, 2, 1, 1), torn(0, 2, 1, 1)), 6, 0, span(1, 2), span(0, 1), span(1, 2)},
		"one such tear":               {newReel(3, torn(0, 2, 1, 1)), 3, 0, span(2, 2), span(0, 1), span(1, 2)},
		"the ends are no splices":     {newReel(4, torn(0, 0, 1, 1), torn(3, 3, 1, 1)), 1, 0, span(2, 2), none, span(2, 2)},
		"gaps of many feet":           {newReel(9, torn(1, 3, 3, 3), torn(5, 7, 3, 3)), 1, 0, span(3, 3), span(2, 2), span(1, 1)},
		"all is known":                {newReel(3, seen(0, 2), counted(3, 3), joined(0, 0)), 1, 0, span(3, 3), none, span(3, 3)},
		"one of all is gone":          {newReel(3, torn(0, 2, 0, 2), gone(0, 2)), 5, 0, span(1, 2), span(0, 1), span(1, 2)},
		"gone without a tear":         {newReel(3, gone(0, 2)), 0, 1, none, none, none},
		"counted away":                {newReel(4, torn(0, 3, 0, 4), counted(2, 2)), 3, 0, span(2, 2), span(0, 1), span(1, 2)},
		"counted above the feet":      {newReel(4, counted(5, 16)), 0, 1, none, none, none},
		"two liars":                   {newReel(3, gone(0, 0), gone(1, 1), counted(3, 3), seen(0, 2)), 0, 2, none, none, none},
		"two equal liars":             {newReel(3, gone(0, 1), gone(0, 1), seen(0, 1), seen(0, 1), seen(1, 1)), 0, 2, none, none, none},
		"the liar is the tear":        {newReel(3, torn(1, 1, 1, 1), counted(3, 3), seen(0, 2)), 0, 1, none, none, none},
		"all tears lie":               {newReel(3, torn(0, 2, 4, 4), torn(1, 1, 2, 2), torn(0, 1, 3, 16)), 0, 3, none, none, none},
		"splices that cannot be":      {newReel(5, torn(0, 4, 0, 5), joined(2, 2)), 0, 1, none, none, none},
		"each other foot of all":      {newReel(16, slices.Concat(ones(1, 3, 5, 7, 9, 11, 13))...), 1, 0, span(9, 9), span(7, 7), span(2, 2)},
		"all that ten tears can make": {newReel(16, slices.Repeat([]api.Mark{torn(0, 15, 0, 16)}, 10)...), 65536, 0, span(0, 16), span(0, 7), span(0, 16)},
	} {
		many, e1 := reel.Many(x.r)
		fewest, e2 := reel.Fewest(x.r)
		if many != x.many || fewest != x.fewest || e1 != api.OK || e2 != api.OK {
			t.Errorf("%s: Many = %d, %d; Fewest = %d, %d", name, many, e1, fewest, e2)
		}
		want := api.OK
		if x.many == 0 {
			want = api.ErrNone
		}
		left, e1 := reel.Left(x.r)
		splices, e2 := reel.Splices(x.r)
		longest, e3 := reel.Longest(x.r)
		if left != x.left || splices != x.splices || longest != x.longest || e1 != want || e2 != want || e3 != want {
			t.Errorf("%s: Left = %v, %d; Splices = %v, %d; Longest = %v, %d", name, left, e1, splices, e2, longest, e3)
		}
		if l, e := reel.Show(x.r); e != want || want != api.OK && len(l) != 0 {
			t.Errorf("%s: Show = %v, %d", name, l, e)
		}
	}
}

func ones(feet ...int) []api.Mark {
	var l []api.Mark
	for _, n := range feet {
		l = append(l, torn(n, n, 1, 1))
	}
	return l
}

// P1.7.
func TestFoot(t *testing.T) {
	for i, x := range []struct {
		r       api.Reel
		n, want int
		e       api.Errno
	}{
		{exampleR(), 0, api.Here, api.OK},
		{exampleR(), 2, api.Here, api.OK},
		{exampleR(), 3, api.Open, api.OK},
		{exampleR(), 6, api.Open, api.OK},
		{exampleR(), 7, api.Open, api.OK},
		{exampleS(), 6, api.Away, api.OK},
		{exampleS(), 7, api.Here, api.OK},
		{exampleR(), -1, 0, api.ErrArg},
		{exampleR(), 8, 0, api.ErrArg},
		{exampleR(), math.MaxInt, 0, api.ErrArg},
		{exampleR(), math.MinInt, 0, api.ErrArg},
		{exampleT(), 8, 0, api.ErrArg},
		{exampleT(), 0, 0, api.ErrNone},
		{newReel(1), 0, api.Here, api.OK},
		{newReel(1, torn(0, 0, 1, 1)), 0, api.Away, api.OK},
		{newReel(1, torn(0, 0, 0, 1)), 0, api.Open, api.OK},
		{newReel(16, torn(15, 15, 1, 1)), 15, api.Away, api.OK},
		{newReel(16, torn(15, 15, 1, 1)), 14, api.Here, api.OK},
		{newReel(16), 16, 0, api.ErrArg},
	} {
		if n, e := reel.Foot(x.r, x.n); n != x.want || e != x.e {
			t.Errorf("%d: Foot %d = %d, %d", i, x.n, n, e)
		}
	}
}

// P1.8.
func TestWhole(t *testing.T) {
	for i, x := range []struct {
		r        api.Reel
		from, to int
		want     api.Span
		e        api.Errno
	}{
		{exampleR(), 3, 7, span(2, 3), api.OK},
		{exampleR(), 0, 7, span(5, 6), api.OK},
		{exampleR(), 0, 2, span(3, 3), api.OK},
		{exampleR(), 3, 3, span(0, 1), api.OK},
		{exampleR(), 6, 7, span(1, 1), api.OK},
		{exampleR(), 7, 7, span(0, 1), api.OK},
		{exampleR(), 4, 3, span(0, 0), api.ErrArg},
		{exampleR(), -1, 3, span(0, 0), api.ErrArg},
		{exampleR(), 3, 8, span(0, 0), api.ErrArg},
		{exampleR(), math.MinInt, math.MaxInt, span(0, 0), api.ErrArg},
		{exampleT(), 3, 8, span(0, 0), api.ErrArg},
		{exampleT(), 3, 7, span(0, 0), api.ErrNone},
		{newReel(16), 0, 15, span(16, 16), api.OK},
		{newReel(16, torn(0, 15, 0, 16)), 4, 9, span(0, 6), api.OK},
		{newReel(16, torn(0, 15, 3, 4)), 4, 9, span(2, 6), api.OK},
	} {
		if s, e := reel.Whole(x.r, x.from, x.to); s != x.want || e != x.e {
			t.Errorf("%d: Whole %d to %d = %v, %d", i, x.from, x.to, s, e)
		}
	}
}

// P1.9.
func TestShow(t *testing.T) {
	for i, r := range append(sound(), newReel(16, torn(0, 15, 1, 4), torn(3, 12, 2, 9), joined(2, 2))) {
		if len(r.Marks) == api.MaxMarks { // too many blocks to try
			continue
		}
		l, e := reel.Show(r)
		possible := allTruths(r)
		if len(possible) == 0 {
			if len(l) != 0 || e != api.ErrNone {
				t.Errorf("%d: Show = %v, %d, not ErrNone", i, l, e)
			}
			continue
		}
		if e != api.OK || !slices.IsSorted(l) || !slices.Contains(possible, setOf(r.Feet, l)) {
			t.Errorf("%d: Show = %v, %d, which is no truth", i, l, e)
		}
	}
	if l, e := reel.Show(newReel(3, torn(0, 2, 3, 3))); len(l) != 0 || e != api.OK {
		t.Errorf("Show = %v, %d of a reel of which nothing is left", l, e)
	}
	if l, e := reel.Show(newReel(5, torn(1, 3, 3, 3))); !slices.Equal(l, []int{0, 4}) || e != api.OK {
		t.Errorf("Show = %v, %d, not 0 4", l, e)
	}
}

// P1.10.
func TestLacks(t *testing.T) {
	bad, strange := newReel(17), newReel(8, api.Mark{})
	for i, x := range []struct {
		l    []api.Reel
		want []int
		e    api.Errno
	}{
		{[]api.Reel{exampleR()}, []int{3, 4, 6, 7}, api.OK},
		{[]api.Reel{exampleR(), exampleS()}, []int{3, 4, 6}, api.OK},
		{[]api.Reel{exampleS(), exampleR(), exampleS(), exampleR()}, []int{3, 4, 6}, api.OK},
		{[]api.Reel{exampleR(), newReel(8)}, nil, api.OK},
		{[]api.Reel{newReel(8, torn(0, 7, 8, 8))}, []int{0, 1, 2, 3, 4, 5, 6, 7}, api.OK},
		{[]api.Reel{newReel(4, torn(0, 1, 2, 2)), newReel(4, torn(2, 3, 2, 2))}, nil, api.OK},
		{[]api.Reel{newReel(4, torn(0, 1, 1, 1)), newReel(4, torn(0, 1, 1, 1))}, []int{0, 1}, api.OK},
		{[]api.Reel{newReel(16, torn(15, 15, 0, 1)), newReel(16, torn(14, 15, 2, 2))}, []int{15}, api.OK},
		{nil, nil, api.ErrArg},
		{[]api.Reel{}, nil, api.ErrArg},
		{slices.Repeat([]api.Reel{exampleR()}, 5), nil, api.ErrArg},
		{[]api.Reel{exampleR(), exampleR(), newReel(7)}, nil, api.ErrArg},
		{[]api.Reel{newReel(8), bad}, nil, api.ErrReel},
		{[]api.Reel{newReel(8), strange}, nil, api.ErrMark},
		{[]api.Reel{newReel(7), strange, bad}, nil, api.ErrMark},
		{[]api.Reel{newReel(7), bad, strange}, nil, api.ErrReel},
		{[]api.Reel{newReel(8), newReel(8), newReel(8), newReel(8), newReel(8), strange}, nil, api.ErrMark},
		{[]api.Reel{exampleT(), strange}, nil, api.ErrMark},
		{[]api.Reel{exampleT(), newReel(7)}, nil, api.ErrArg},
		{slices.Repeat([]api.Reel{exampleT()}, 5), nil, api.ErrArg},
		{[]api.Reel{exampleT()}, nil, api.ErrNone},
		{[]api.Reel{newReel(8), exampleT()}, nil, api.ErrNone},
		{[]api.Reel{exampleT(), newReel(8)}, nil, api.ErrNone},
	} {
		if l, e := reel.Lacks(x.l); e != x.e || !slices.Equal(l, x.want) {
			t.Errorf("%d: Lacks = %v, %d, not %v, %d", i, l, e, x.want, x.e)
		}
	}
}

// P1.2 to P1.9: all functions agree with what comes out if every block of every tear is tried.
func TestAgainstTrying(t *testing.T) {
	rnd := rand.New(rand.NewSource(1))
	for range 1500 {
		r := randomReel(rnd, 1+rnd.Intn(8), rnd.Intn(4), rnd.Intn(3))
		compareWithTrying(t, r, allTruths(r))
	}
	for range 15 {
		r := randomReel(rnd, 12+rnd.Intn(5), rnd.Intn(5), rnd.Intn(3))
		compareWithTrying(t, r, allTruths(r))
	}
}

func compareWithTrying(t *testing.T, r api.Reel, possible []string) {
	t.Helper()
	many, e := reel.Many(r)
	if many != len(possible) || e != api.OK {
		t.Errorf("Many of %v = %d, %d, not %d", r, many, e, len(possible))
	}
	shown, e := reel.Show(r)
	if len(possible) == 0 {
		if e != api.ErrNone {
			t.Errorf("Show of %v: %d, not ErrNone", r, e)
		}
		_, errors := spans(r)
		if slices.ContainsFunc(errors, func(e api.Errno) bool { return e != api.ErrNone }) {
			t.Errorf("spans of %v: %v, not all ErrNone", r, errors)
		}
		return
	}
	if e != api.OK || !slices.IsSorted(shown) || !slices.Contains(possible, setOf(r.Feet, shown)) {
		t.Errorf("Show of %v = %v, %d", r, shown, e)
	}
	want := []api.Span{spanOf(possible, number), spanOf(possible, longestRow)}
	for from := range r.Feet {
		for to := from; to < r.Feet; to++ {
			want = append(want, spanOf(possible, func(there string) int { return number(there[from : to+1]) }))
		}
	}
	want = append(want, spanOf(possible, spliceNumber))
	if l, errors := spans(r); !slices.Equal(l, want) {
		t.Errorf("spans of %v: %v, %v, not %v", r, l, errors, want)
	}
	for n := range r.Feet {
		s := spanOf(possible, func(there string) int { return number(there[n : n+1]) })
		kind := map[api.Span]int{span(1, 1): api.Here, span(0, 0): api.Away, span(0, 1): api.Open}[s]
		if k, e := reel.Foot(r, n); k != kind || e != api.OK {
			t.Errorf("Foot %d of %v = %d, %d, not %d", n, r, k, e, kind)
		}
	}
}

// P1.3: Fewest agrees with what comes out if all choices of marks are dropped.
func TestFewestAgainstTrying(t *testing.T) {
	rnd := rand.New(rand.NewSource(3))
	seen := map[int]int{}
	for range 400 {
		r := randomReel(rnd, 1+rnd.Intn(6), rnd.Intn(4), rnd.Intn(5))
		want := fewestByTrying(r)
		if n, e := reel.Fewest(r); n != want || e != api.OK {
			t.Errorf("Fewest of %v = %d, %d, not %d", r, n, e, want)
		}
		seen[want]++
	}
	if seen[0] == 0 || seen[1] == 0 || seen[2] == 0 {
		t.Errorf("the reels need too few marks to be dropped: %v", seen)
	}
}

// P1 and R4: no call changes its argument, or shares memory with it or with another result.
func TestMemory(t *testing.T) {
	for _, r := range sound() {
		before := clone(r)
		reel.Check(r)
		reel.Many(r)
		reel.Fewest(r)
		spans(r)
		reel.Foot(r, 0)
		first, _ := reel.Show(r)
		second, _ := reel.Show(r)
		for i := range first {
			first[i] = -9
		}
		if slices.Contains(second, -9) {
			t.Errorf("Show of %v returns the same memory twice", before)
		}
		l := []api.Reel{r, exampleR()}
		reel.Lacks(l)
		if !same(r, before) || !same(l[0], before) || !same(l[1], exampleR()) {
			t.Errorf("%v was changed to %v", before, r)
		}
	}
}

// P1: with any numbers at all every call returns, and an error comes with zero values.
func TestAnyArguments(t *testing.T) {
	rnd := rand.New(rand.NewSource(4))
	odd := func() int {
		if rnd.Intn(6) == 0 {
			return []int{math.MinInt, math.MaxInt, -1, 17, 11, 1 << 32}[rnd.Intn(6)]
		}
		return rnd.Intn(9)
	}
	for range 3000 {
		r := api.Reel{Feet: odd()}
		for range rnd.Intn(4) {
			r.Marks = append(r.Marks, api.Mark{Kind: odd(), From: odd(), To: odd(), Count: span(odd(), odd())})
		}
		from, to := odd(), odd()
		if n, e := reel.Foot(r, from); e != api.OK && n != 0 {
			t.Errorf("Foot %d of %v = %d, %d", from, r, n, e)
		}
		if s, e := reel.Whole(r, from, to); e != api.OK && s != span(0, 0) {
			t.Errorf("Whole %d to %d of %v = %v, %d", from, to, r, s, e)
		}
		if n, e := reel.Fewest(r); e != api.OK && n != 0 || e != reel.Check(r) {
			t.Errorf("Fewest of %v = %d, %d", r, n, e)
		}
		if l, e := reel.Lacks([]api.Reel{r, {Feet: from}}); e != api.OK && len(l) != 0 {
			t.Errorf("Lacks of %v = %v, %d", r, l, e)
		}
	}
}
