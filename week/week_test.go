package week_test

import (
	"math"
	"slices"
	"testing"

	"bijou/api"
	"bijou/week"
)

// P5.1: Check returns the first error of a week.
func TestCheck(t *testing.T) {
	for name, x := range faulty() {
		if e := week.Check(with(exampleV(), x.change)); e != x.e {
			t.Errorf("%s: Check = %d, not %d", name, e, x.e)
		}
	}
	for i, w := range sound() {
		if e := week.Check(w); e != api.OK {
			t.Errorf("sound week %d: Check = %d", i, e)
		}
	}
}

// checkErrors tells whether all calls return an error with zero values.
func checkErrors(t *testing.T, name string, w api.Week, p []int, deal int, want api.Errno) {
	t.Helper()
	checkProgramErrors(t, name, w, p, want)
	checkWeekErrors(t, name, w, want)
	checkCostError(t, name, w, deal, want)
}

func checkProgramErrors(t *testing.T, name string, w api.Week, p []int, want api.Errno) {
	t.Helper()
	if l, e := week.Broken(w, p); len(l) != 0 || e != want {
		t.Errorf("%s: Broken by %v = %v, %d, not error %d", name, p, l, e, want)
	}
	if n, e := week.Takings(w, p); n != 0 || e != want {
		t.Errorf("%s: Takings of %v = %d, %d, not error %d", name, p, n, e, want)
	}
}

func checkWeekErrors(t *testing.T, name string, w api.Week, want api.Errno) {
	t.Helper()
	if n, e := week.Most(w); n != 0 || e != want {
		t.Errorf("%s: Most = %d, %d, not error %d", name, n, e, want)
	}
	if p, e := week.Best(w); len(p) != 0 || e != want {
		t.Errorf("%s: Best = %v, %d, not error %d", name, p, e, want)
	}
	if l, e := week.Clash(w); len(l) != 0 || e != want {
		t.Errorf("%s: Clash = %v, %d, not error %d", name, l, e, want)
	}
}

func checkCostError(t *testing.T, name string, w api.Week, deal int, want api.Errno) {
	t.Helper()
	if n, e := week.Cost(w, deal); n != 0 || e != want {
		t.Errorf("%s: Cost of %d = %d, %d, not error %d", name, deal, n, e, want)
	}
}

// P1: every function returns the error of the week, then that of the deals, before any other one, with zero values.
func TestErrorsOfWeeks(t *testing.T) {
	for name, x := range faulty() {
		w := with(exampleV(), x.change)
		checkErrors(t, name, w, []int{0, 0, 1, 1}, 0, x.e)
		checkErrors(t, name, w, []int{0, 0, 1, 2}, 3, x.e)
		checkErrors(t, name, w, nil, -1, x.e)
	}
}

// P1: a program that has not a film or Dark for each slot is ErrProgram.
func TestErrorsOfPrograms(t *testing.T) {
	for name, p := range map[string][]int{
		"nil": nil, "empty": {}, "a slot less": {0, 0, 1}, "a slot more": {0, 0, 1, 1, 1}, "twice": {0, 0, 1, 1, 0, 0, 1, 1},
		"a film 2": {0, 0, 1, 2}, "a first film 2": {2, 0, 1, 1}, "a film -2": {0, -2, 1, 1}, "the least film": {0, 0, math.MinInt, 1}, "an endless film": {0, 0, 1, math.MaxInt},
	} {
		checkProgramErrors(t, name, exampleW(), p, api.ErrProgram)
		checkProgramErrors(t, name, exampleV(), p, api.ErrProgram)
	}
	none := api.Week{Days: 1, Rooms: []int{1}, Hours: 1}
	checkProgramErrors(t, "a film of none", none, []int{0}, api.ErrProgram)
	for i, w := range sound() {
		slots := len(slotsIn(w))
		checkProgramErrors(t, "dark", w, slices.Repeat([]int{api.Dark}, slots+1), api.ErrProgram)
		checkProgramErrors(t, "dark", w, slices.Repeat([]int{api.Dark}, slots-1), api.ErrProgram)
		for _, p := range [][]int{slices.Repeat([]int{api.Dark}, slots), slices.Repeat([]int{len(w.Films) - 1}, slots)} {
			if _, e := week.Broken(w, p); e != api.OK {
				t.Errorf("sound week %d: Broken by %v: %d", i, p, e)
			}
			if _, e := week.Takings(w, p); e != api.OK {
				t.Errorf("sound week %d: Takings of %v: %d", i, p, e)
			}
		}
	}
}

// P1: a number that no deal has is ErrArg, before ErrNone.
func TestErrorsOfArguments(t *testing.T) {
	for _, w := range append(sound(), exampleV()) {
		for _, deal := range []int{-1, len(w.Deals), 8, math.MinInt, math.MaxInt} {
			if deal < 0 || deal >= len(w.Deals) {
				checkCostError(t, "no deal", w, deal, api.ErrArg)
			}
		}
	}
}

func checkTaken(t *testing.T, name string, w api.Week, p []int, want int) {
	t.Helper()
	if n, e := week.Takings(w, p); n != want || e != api.OK {
		t.Errorf("%s: Takings of %v = %d, %d, not %d", name, p, n, e, want)
	}
}

func checkBroken(t *testing.T, name string, w api.Week, p []int, want ...int) {
	t.Helper()
	if l, e := week.Broken(w, p); !slices.Equal(l, want) || e != api.OK {
		t.Errorf("%s: Broken by %v = %v, %d, not %v", name, p, l, e, want)
	}
}

// checkBest tells whether Most is so much, and Best a program that keeps all deals and takes just this.
func checkBest(t *testing.T, name string, w api.Week, want int) {
	t.Helper()
	if n, e := week.Most(w); n != want || e != api.OK {
		t.Errorf("%s: Most = %d, %d, not %d", name, n, e, want)
	}
	p, e := week.Best(w)
	if e != api.OK || len(p) != len(slotsIn(w)) {
		t.Errorf("%s: Best = %v, %d", name, p, e)
		return
	}
	checkBroken(t, name+": Best", w, p)
	checkTaken(t, name+": Best", w, p, want)
}

func checkClash(t *testing.T, name string, w api.Week, want ...int) {
	t.Helper()
	if l, e := week.Clash(w); !slices.Equal(l, want) || e != api.OK {
		t.Errorf("%s: Clash = %v, %d, not %v", name, l, e, want)
	}
}

// checkNone tells whether Most, Best and Cost say that no program keeps all deals.
func checkNone(t *testing.T, name string, w api.Week) {
	t.Helper()
	if n, e := week.Most(w); n != 0 || e != api.ErrNone {
		t.Errorf("%s: Most = %d, %d", name, n, e)
	}
	if p, e := week.Best(w); len(p) != 0 || e != api.ErrNone {
		t.Errorf("%s: Best = %v, %d", name, p, e)
	}
	for deal := range w.Deals {
		checkCostError(t, name, w, deal, api.ErrNone)
	}
}

func checkNoClash(t *testing.T, name string, w api.Week) {
	t.Helper()
	if l, e := week.Clash(w); len(l) != 0 || e != api.ErrNone {
		t.Errorf("%s: Clash = %v, %d, not error %d", name, l, e, api.ErrNone)
	}
}

func checkCost(t *testing.T, name string, w api.Week, deal, want int) {
	t.Helper()
	if n, e := week.Cost(w, deal); n != want || e != api.OK {
		t.Errorf("%s: Cost of %d = %d, %d, not %d", name, deal, n, e, want)
	}
}

// P5.2 to P5.7: the examples of the chapter.
func TestExamples(t *testing.T) {
	w, v := exampleW(), exampleV()
	checkTaken(t, "W", w, []int{0, 0, 1, 1}, 2520)
	checkTaken(t, "W", w, []int{0, 1, 0, -1}, 2020)
	checkBroken(t, "W", w, []int{0, 0, 1, 1})
	checkBroken(t, "W", w, []int{0, 1, 0, -1}, 0, 1)
	checkBroken(t, "W", w, []int{1, 1, 0, 0}, 1)
	checkBest(t, "W", w, 2520)
	if p, e := week.Best(w); !slices.Equal(p, []int{0, 0, 1, 1}) || e != api.OK {
		t.Errorf("Best of W = %v, %d", p, e)
	}
	checkCost(t, "W", w, 0, 280)
	checkCost(t, "W", w, 1, 0)
	checkNoClash(t, "W", w)
	checkClash(t, "V", v, 1, 2)
	checkNone(t, "V", v)
}

// grid is a week of 2 days, 2 screens and 2 hours.
func grid(deals ...api.Deal) api.Week {
	return api.Week{Days: 2, Rooms: []int{10, 20}, Hours: 2, Films: []api.Movie{movie(1, 20, 20), movie(2, 15, 3)}, Deals: deals}
}

// both returns a deal for both days and both hours of a grid.
func both(d api.Deal) api.Deal { return during(d, 0, 1, 0, 1) }

// evening is a week of so many hours of one screen, in which all films take the same, with deals for all of them.
func evening(hours, films int, deals ...api.Deal) api.Week {
	w := api.Week{Days: 1, Rooms: []int{10}, Hours: hours}
	for range films {
		w.Films = append(w.Films, movie(1, slices.Repeat([]int{10}, hours)...))
	}
	for _, d := range deals {
		w.Deals = append(w.Deals, during(d, 0, 0, 0, hours-1))
	}
	return w
}

// program returns what a text says slot by slot: a digit for a film, a point for Dark; a space is none.
func program(text string) []int {
	var p []int
	for _, r := range text {
		switch r {
		case ' ':
		case '.':
			p = append(p, api.Dark)
		default:
			p = append(p, int(r-'0'))
		}
	}
	return p
}

func brokenIf(broken bool) []int {
	if broken {
		return []int{0}
	}
	return nil
}

// P5.2: each slot has the number that its day, its screen and its hour say, and a deal looks only at its own slots.
func TestSlots(t *testing.T) {
	for n, s := range slotsIn(grid()) {
		p := slices.Repeat([]int{api.Dark}, 8)
		p[n] = 1
		for _, other := range slotsIn(grid()) {
			then := func(d api.Deal) api.Deal { return during(d, other.day, other.day, other.hour, other.hour) }
			isThen := s.day == other.day && s.hour == other.hour
			checkBroken(t, "once on a screen", grid(then(least(1, 1))), p, brokenIf(!isThen)...)
			checkBroken(t, "once on the large screen", grid(in(11, then(least(1, 1)))), p, brokenIf(!isThen || s.screen != 1)...)
			checkBroken(t, "never then", grid(then(most(1, 0))), p, brokenIf(isThen)...)
			checkBroken(t, "once another film", grid(then(least(0, 1))), p, 0)
		}
	}
}

// P5.2: each kind of deal is kept just if the document says so.
func TestKindsOfDeals(t *testing.T) {
	for name, x := range map[string]struct {
		d    api.Deal
		p    string
		kept bool
	}{
		"least 0 of none":                      {both(least(1, 0)), ".... ....", true},
		"least 1 of none":                      {both(least(1, 1)), "0000 0000", false},
		"least 2 of 2":                         {both(least(1, 2)), "1... ...1", true},
		"least 3 of 2":                         {both(least(1, 3)), "10.. .0.1", false},
		"least 8 of 8":                         {both(least(1, 8)), "1111 1111", true},
		"least 8 of 7":                         {both(least(1, 8)), "1111 1110", false},
		"least 2, 1 on another day":            {during(least(1, 2), 1, 1, 0, 1), "1... ...1", false},
		"least 2, 1 at another hour":           {during(least(1, 2), 0, 1, 1, 1), "1... ...1", false},
		"least 2, 1 on a screen too small":     {in(11, both(least(1, 2))), "1... ...1", false},
		"least 2, on screens as large":         {in(10, both(least(1, 2))), "1... ...1", true},
		"least 1 on a screen as large":         {in(20, both(least(1, 1))), "..1. ....", true},
		"least 1 on no screen":                 {in(21, both(least(1, 1))), "1111 1111", false},
		"least 0 on no screen":                 {in(21, both(least(1, 0))), "1111 1111", true},
		"most 0 of none":                       {both(most(1, 0)), "0000 0000", true},
		"most 0 of 1":                          {both(most(1, 0)), "0000 1000", false},
		"most 2 of 2":                          {both(most(1, 2)), "1... ...1", true},
		"most 2 of 3":                          {both(most(1, 2)), "1.1. ...1", false},
		"most 8 of 8":                          {both(most(1, 8)), "1111 1111", true},
		"most 7 of 8":                          {both(most(1, 7)), "1111 1111", false},
		"most 1, another on another day":       {during(most(1, 1), 1, 1, 0, 1), "1... ...1", true},
		"most 1, another at another hour":      {during(most(1, 1), 0, 1, 1, 1), "1... ...1", true},
		"most 1, another on a small screen":    {in(11, both(most(1, 1))), "1... ...1", true},
		"most 1, another on a screen as large": {in(10, both(most(1, 1))), "1... ...1", false},
		"most 0 on no screen":                  {in(21, both(most(1, 0))), "1111 1111", true},
		"clean on another screen each day":     {both(clean(1)), "11.. ..11", true},
		"clean on both screens":                {both(clean(1)), "1111 1111", true},
		"clean on both screens at times":       {both(clean(1)), "1..1 ..11", false},
		"clean on one day":                     {both(clean(1)), "11.. ....", false},
		"clean on the day that it is for":      {during(clean(1), 0, 0, 0, 1), "11.. ....", true},
		"clean on the other day":               {during(clean(1), 1, 1, 0, 1), "11.. ....", false},
		"not clean on the first day":           {both(clean(1)), ".... 11..", false},
		"clean but for another film":           {both(clean(1)), "11.. ..10", false},
		"clean but for the first hour":         {both(clean(1)), "11.. ...1", false},
		"clean behind a screen with another":   {both(clean(1)), "1011 0111", true},
		"clean at the hour that it is for":     {during(clean(1), 0, 1, 1, 1), ".1.. 0001", true},
		"clean at the other hour":              {during(clean(1), 0, 1, 0, 0), ".1.. 0001", false},
		"clean on a screen too small":          {in(11, both(clean(1))), "11.. ..11", false},
		"clean on screens as large":            {in(10, both(clean(1))), "11.. ..11", true},
		"clean on the large screen":            {in(20, both(clean(1))), "..11 0011", true},
		"clean on no screen":                   {in(21, both(clean(1))), "1111 1111", false},
		"clean of another film":                {both(clean(0)), "11.. ..11", false},
		"apart of none":                        {both(apart(1)), ".... ....", true},
		"apart at two hours":                   {both(apart(1)), "1..1 ....", true},
		"apart on two days":                    {both(apart(1)), "1... 1...", true},
		"apart on a screen all the time":       {both(apart(1)), "11.. ..11", true},
		"not apart at the first hour":          {both(apart(1)), "1.1. ....", false},
		"not apart at the last hour":           {both(apart(1)), "10.. .1.1", false},
		"not apart on another day":             {during(apart(1), 0, 0, 0, 1), "1... .1.1", true},
		"not apart at another hour":            {during(apart(1), 0, 1, 0, 0), "1... .1.1", true},
		"apart from a screen too small":        {in(11, both(apart(1))), "1.1. .1.1", true},
		"not apart on screens as large":        {in(10, both(apart(1))), "1.1. .1.1", false},
		"apart from another film":              {both(apart(1)), "1001 0110", true},
		"apart on no screen":                   {in(21, both(apart(1))), "1111 1111", true},
		"every hour on a screen":               {both(every(1)), "1..1 .11.", true},
		"every hour on both screens":           {both(every(1)), "1111 1111", true},
		"every hour but the last of a day":     {both(every(1)), "1... .11.", false},
		"every hour but the first of a day":    {both(every(1)), "1..1 .1.1", false},
		"every hour of one day":                {both(every(1)), "1..1 ....", false},
		"every hour of the day that it is for": {during(every(1), 0, 0, 0, 1), "1..1 ....", true},
		"every hour that it is for":            {during(every(1), 0, 1, 0, 0), "1... ..1.", true},
		"every hour, once too small a screen":  {in(11, both(every(1))), "1.11 ..11", true},
		"every hour on too small a screen":     {in(11, both(every(1))), "1..1 ..11", false},
		"every hour on screens as large":       {in(10, both(every(1))), "1..1 ..11", true},
		"every hour on no screen":              {in(21, both(every(1))), "1111 1111", false},
		"every hour another film":              {both(every(1)), "1001 0000", false},
	} {
		checkBroken(t, name, grid(x.d), program(x.p), brokenIf(!x.kept)...)
	}
}

// P5.2: all deals that are broken are named, in ascending order, also equal ones.
func TestBrokenDeals(t *testing.T) {
	w := grid(during(least(1, 1), 0, 1, 0, 1), during(most(0, 1), 0, 1, 0, 1), during(least(1, 1), 0, 1, 0, 1), during(apart(0), 0, 0, 0, 1))
	checkBroken(t, "one film", w, program("0000 0000"), 0, 1, 2, 3)
	checkBroken(t, "dark", w, program(".... ...."), 0, 2)
	checkBroken(t, "the other film", w, program("1111 1111"))
	checkBroken(t, "the first film twice", w, program("01.. 0.1."), 1)
	checkBroken(t, "the first film twice at an hour", w, program("010. ...."), 1, 3)
	checkBroken(t, "no deals", grid(), program("0000 0000"))
}

// P5.3: a film takes its price times the lesser one of the crowd of the hour and the seats of the screen.
func TestTakings(t *testing.T) {
	w := grid()
	for text, want := range map[string]int{
		".... ....": 0, "0... ....": 10, ".0.. ....": 10, "..0. ....": 20, "...0 ....": 20, ".... 0...": 10, ".... ...0": 20,
		"1... ....": 20, ".1.. ....": 6, "..1. ....": 30, "...1 ....": 6, ".... 1...": 20, ".... .1..": 6, ".... ..1.": 30, ".... ...1": 6,
		"0000 0000": 120, "1111 1111": 124, "01.1 0..0": 52,
	} {
		checkTaken(t, "the grid", w, program(text), want)
	}
	checkTaken(t, "at the limits", full(), program("0000 0000"), 100*(500*4+400*4))
	checkTaken(t, "without a film", api.Week{Days: 1, Rooms: []int{1}, Hours: 1}, program("."), 0)
}

// P5.4 and P5.5: the best program keeps all deals, also if it is dark for that.
func TestBest(t *testing.T) {
	for name, x := range map[string]struct {
		w    api.Week
		want int
	}{
		"no deals":                   {grid(), 20 + 10 + 30 + 20 + 20 + 10 + 30 + 20},
		"the worse film at least":    {grid(both(least(0, 5))), 160 - 10},
		"the better film at most":    {grid(both(most(1, 1))), 160 - 10 - 10 - 10},
		"a film clean":               {grid(in(20, both(clean(1)))), 160 - 14 - 14},
		"a film apart":               {grid(both(apart(0)), both(apart(1))), 160 - 2*(10+4)},
		"a film at every hour":       {grid(both(every(1))), 160 - 4 - 4},
		"nothing of one film":        {grid(both(most(0, 0))), 124},
		"nothing at all":             {grid(both(most(0, 0)), both(most(1, 0))), 0},
		"a deal for no screen":       {grid(in(21, both(apart(1)))), 160},
		"dark at the last hour":      {grid(during(most(0, 0), 1, 1, 1, 1), during(most(1, 0), 1, 1, 1, 1)), 160 - 10 - 20},
		"no films":                   {api.Week{Days: 2, Rooms: []int{10, 20}, Hours: 2}, 0},
		"one slot":                   {api.Week{Days: 1, Rooms: []int{10}, Hours: 1, Films: []api.Movie{movie(3, 9), movie(2, 20)}}, 27},
		"films that nobody pays for": {api.Week{Days: 1, Rooms: []int{10}, Hours: 1, Films: []api.Movie{movie(0, 9), movie(2, 0)}, Deals: []api.Deal{least(1, 1)}}, 0},
		"all limits":                 {full(), fullMost},
	} {
		checkBest(t, name, x.w, x.want)
		checkNoClash(t, name, x.w)
	}
}

// P5.6: the smallest set that cannot be kept is named, of several ones the first.
func TestClash(t *testing.T) {
	never, some, none := in(21, both(least(1, 1))), both(least(0, 1)), both(most(0, 0))
	half, more := both(least(0, 4)), both(least(1, 5))
	days := api.Week{Days: 7, Rooms: []int{10}, Hours: 1, Films: []api.Movie{movie(1, 10)}, Deals: []api.Deal{during(most(0, 6), 0, 6, 0, 0)}}
	for day := range days.Days {
		days.Deals = append(days.Deals, during(least(0, 1), day, day, 0, 0))
	}
	for name, x := range map[string]struct {
		w    api.Week
		want []int
	}{
		"one deal":                       {grid(never), []int{0}},
		"one of two":                     {grid(some, never), []int{1}},
		"the first one of two":           {grid(never, never), []int{0}},
		"one behind two that clash":      {grid(some, none, never), []int{2}},
		"one before two that clash":      {grid(never, some, none), []int{0}},
		"two":                            {grid(some, none), []int{0, 1}},
		"two of three":                   {grid(more, some, none), []int{1, 2}},
		"two around one":                 {grid(none, more, some), []int{0, 2}},
		"two of four":                    {grid(some, none, some, none), []int{0, 1}},
		"0 3 before 1 2":                 {grid(some, more, half, none), []int{0, 3}},
		"0 2 before 1 2":                 {grid(some, some, none), []int{0, 2}},
		"1 3 before 2 3":                 {grid(more, some, some, none), []int{1, 3}},
		"two late ones before three":     {evening(3, 3, least(0, 1), least(1, 1), least(2, 2), most(2, 0)), []int{2, 3}},
		"three":                          {evening(2, 3, least(0, 1), least(1, 1), least(2, 1)), []int{0, 1, 2}},
		"three of four":                  {evening(2, 4, least(0, 1), apart(3), least(1, 1), least(2, 1)), []int{0, 2, 3}},
		"the first three of four":        {evening(2, 4, least(3, 1), least(0, 1), least(1, 1), least(2, 1)), []int{0, 1, 2}},
		"four":                           {evening(3, 4, least(3, 1), least(0, 1), least(1, 1), least(2, 1)), []int{0, 1, 2, 3}},
		"all eight":                      {days, []int{0, 1, 2, 3, 4, 5, 6, 7}},
		"a screen that is not there":     {grid(some, more, in(21, both(clean(1)))), []int{2}},
		"a clean screen, but at an hour": {grid(in(20, both(clean(1))), in(11, during(least(0, 1), 1, 1, 1, 1))), []int{0, 1}},
	} {
		checkClash(t, name, x.w, x.want...)
		checkNone(t, name, x.w)
	}
}

// P5.7: a deal costs what would be taken without it, and is not taken with it.
func TestCost(t *testing.T) {
	w := grid(both(least(0, 5)), both(least(0, 4)), both(most(1, 1)))
	for deal, want := range []int{0, 0, 20} {
		checkCost(t, "most of another film", w, deal, want)
	}
	w = grid(both(least(0, 4)), both(most(1, 8)), in(20, both(least(1, 4))))
	for deal, want := range []int{20, 0, 48} {
		checkCost(t, "all of one screen", w, deal, want)
	}
	twice := grid(both(most(0, 0)), both(most(0, 0)))
	checkCost(t, "twice the same deal", twice, 0, 0)
	checkCost(t, "twice the same deal", twice, 1, 0)
	checkCost(t, "once the same deal", less(twice, 0), 0, 160-124)
	dark := grid(both(most(0, 0)), both(most(1, 0)))
	checkCost(t, "a dark week", dark, 0, 120)
	checkCost(t, "a dark week", dark, 1, 124)
	checkCost(t, "all limits", full(), 7, 0)
}
