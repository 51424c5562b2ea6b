package share_test

import (
	"slices"
	"testing"

	"bijou/api"
	"bijou/share"
)

// P8.1: Check returns the first error of books.
func TestCheck(t *testing.T) {
	for name, change := range faulty() {
		if e := share.Check(with(three(), change)); e != api.ErrBooks {
			t.Errorf("%s: Check = %d", name, e)
		}
		for how, l := range faultyReports() {
			b := with(three(), change)
			b.Reports = l
			if e := share.Check(b); e != api.ErrBooks {
				t.Errorf("%s, %s: Check = %d", name, how, e)
			}
		}
	}
	for name, l := range faultyReports() {
		if e := share.Check(with(three(), func(b *api.Books) { b.Reports = l })); e != api.ErrReport {
			t.Errorf("%s: Check = %d", name, e)
		}
	}
	for n, b := range sound() {
		if e := share.Check(b); e != api.OK {
			t.Errorf("sound books %d: Check = %d", n, e)
		}
	}
}

// P1: every function returns ErrBooks before any other error, and then ErrReport, with zero values.
func TestErrorsOfBooks(t *testing.T) {
	for name, change := range faulty() {
		checkErrors(t, name, with(three(), change), api.ErrBooks)
	}
	for name, l := range faultyReports() {
		checkErrors(t, name, with(three(), func(b *api.Books) { b.Reports = l }), api.ErrReport)
	}
}

// checkErrors tells whether all calls return an error with zero values, also if all other arguments are wrong.
func checkErrors(t *testing.T, name string, b api.Books, want api.Errno) {
	t.Helper()
	checkMergeError(t, name, b, nil, want)
	checkMergeError(t, name, b, manyReports(41), want)
	for _, week := range []int{11, 98, -1, 100} {
		for _, film := range []int{5, 6, -1} {
			checkWeekError(t, name, b, film, week, want)
			checkDueError(t, name, b, film, week, want)
			checkReachError(t, name, b, film, week, 0, want)
			checkReachError(t, name, b, film, week, -1, want)
			checkReachError(t, name, b, film, week, 10000000, want)
		}
		checkTotalError(t, name, b, week, want)
		checkPayError(t, name, b, week, nil, want)
		checkPayError(t, name, b, week, []api.Payment{payment(6, -1)}, want)
	}
}

func checkMergeError(t *testing.T, name string, b api.Books, more []api.Report, want api.Errno) {
	t.Helper()
	if got, e := share.Merge(b, more); !equal(got, api.Books{}) || e != want {
		t.Errorf("%s: Merge = %v, %d, not error %d", name, got, e, want)
	}
}

func checkWeekError(t *testing.T, name string, b api.Books, film, week int, want api.Errno) {
	t.Helper()
	if a, e := share.Week(b, film, week); a != (api.Account{}) || e != want {
		t.Errorf("%s: Week of %d and %d = %v, %d, not error %d", name, film, week, a, e, want)
	}
}

func checkDueError(t *testing.T, name string, b api.Books, film, week int, want api.Errno) {
	t.Helper()
	if n, e := share.Due(b, film, week); n != 0 || e != want {
		t.Errorf("%s: Due of %d after %d = %d, %d, not error %d", name, film, week, n, e, want)
	}
}

func checkTotalError(t *testing.T, name string, b api.Books, week int, want api.Errno) {
	t.Helper()
	if a, e := share.Total(b, week); a != (api.Account{}) || e != want {
		t.Errorf("%s: Total of %d = %v, %d, not error %d", name, week, a, e, want)
	}
}

func checkPayError(t *testing.T, name string, b api.Books, week int, before []api.Payment, want api.Errno) {
	t.Helper()
	if pay, over, e := share.Pay(b, week, before); len(pay) != 0 || len(over) != 0 || e != want {
		t.Errorf("%s: Pay after %d = %v, %v, %d, not error %d", name, week, pay, over, e, want)
	}
}

func checkReachError(t *testing.T, name string, b api.Books, film, week, cents int, want api.Errno) {
	t.Helper()
	if n, e := share.Reach(b, film, week, cents); n != 0 || e != want {
		t.Errorf("%s: Reach of %d and %d for %d = %d, %d, not error %d", name, film, week, cents, n, e, want)
	}
}

// P8.2 and P1: more reports that are not valid, clash, or are too many with the others, are ErrReport.
func TestErrorsOfMerge(t *testing.T) {
	for name, l := range faultyReports() {
		checkMergeError(t, name, with(three(), func(b *api.Books) { b.Reports = nil }), l, api.ErrReport)
		checkMergeError(t, name+", and others", three(), l, api.ErrReport)
	}
	checkMergeError(t, "a clash with the first", three(), []api.Report{takings(1, 5, 10, 0, 20001)}, api.ErrReport)
	checkMergeError(t, "a clash with the last", three(), []api.Report{takings(50, 9, 0, 0, 0), takings(7, 2, 11, 2, 509)}, api.ErrReport)
	checkMergeError(t, "a clash of an audit", exampleB(), []api.Report{takings(5, 5, 12, 0, 10001)}, api.ErrReport)
	checkMergeError(t, "41 different reports", exampleB(), forExample(36), api.ErrReport)
	checkMergeError(t, "41 different reports, and equal ones", exampleB(), append(forExample(36), exampleB().Reports...)[:40], api.ErrReport)
	checkMergeError(t, "41 reports, one of them at last", full(), []api.Report{takings(0, 99, 0, 0, 0)}, api.ErrReport)
	checkMergeError(t, "41 equal reports", exampleB(), slices.Repeat(exampleB().Reports[:1], 41), api.ErrReport)
}

// forExample are so many different reports for the books of the examples, with Ids from 50 on.
func forExample(n int) []api.Report {
	var l []api.Report
	for id := range n {
		l = append(l, takings(50+id, 5, 10, id%api.MaxTills, id))
	}
	return l
}

// P8.2: Merge returns all reports, each once, ordered by Id.
func TestMerge(t *testing.T) {
	ids := func(l ...int) []api.Report {
		var reports []api.Report
		for _, id := range l {
			reports = append(reports, takings(id, 1, id%10, id%10, id))
		}
		return reports
	}
	for name, x := range map[string]struct{ before, more, want []api.Report }{
		"nothing":                   {nil, nil, nil},
		"nothing more":              {ids(3, 4), nil, ids(3, 4)},
		"nothing before":            {nil, ids(3, 4), ids(3, 4)},
		"nothing more, not ordered": {ids(4, 3, 4), []api.Report{}, ids(3, 4)},
		"nothing before, not once":  {nil, ids(4, 3, 4), ids(3, 4)},
		"behind":                    {ids(3, 4), ids(5, 99), ids(3, 4, 5, 99)},
		"before":                    {ids(3, 4), ids(1, 0), ids(0, 1, 3, 4)},
		"between":                   {ids(9, 5), ids(6, 8, 7), ids(5, 6, 7, 8, 9)},
		"again":                     {ids(3, 4), ids(4, 5, 3), ids(3, 4, 5)},
		"40 and the same 40":        {ids(downFrom(40)...), ids(upTo(40)...), ids(upTo(40)...)},
		"39 and one":                {ids(downFrom(39)...), ids(39), ids(upTo(40)...)},
		"40 equal ones and 39":      {slices.Repeat(ids(39), 40), ids(downFrom(39)...), ids(upTo(40)...)},
	} {
		b, e := share.Merge(plain(x.before...), x.more)
		if want := plain(x.want...); e != api.OK || !equal(b, want) {
			t.Errorf("%s: Merge = %v, %d, not %v", name, b, e, want)
		}
	}
	audits := []api.Report{audit(0, 5, 12, 1), audit(6, 9, 11, 3), takings(7, 2, 11, 3, 509)}
	b, e := share.Merge(with(three(), func(b *api.Books) { b.Reports = b.Reports[:1] }), audits)
	want := with(three(), func(b *api.Books) { b.Reports = []api.Report{audits[0], b.Reports[0], audits[1], audits[2]} })
	if e != api.OK || !equal(b, want) {
		t.Errorf("Merge of three contracts = %v, %d, not %v", b, e, want)
	}
}

// upTo returns the first n numbers, in ascending order.
func upTo(n int) []int {
	var l []int
	for i := range n {
		l = append(l, i)
	}
	return l
}

// downFrom returns the first n numbers, the greatest one first.
func downFrom(n int) []int {
	l := upTo(n)
	slices.Reverse(l)
	return l
}

// P8.3 and P1: a film without a contract, and a week that it has not, are ErrArg.
func TestErrorsOfWeek(t *testing.T) {
	for name, x := range noWeeks() {
		checkWeekError(t, name, three(), x[0], x[1], api.ErrArg)
	}
	checkWeekError(t, "no contracts", api.Books{}, 0, 0, api.ErrArg)
	for _, x := range [][2]int{{5, 10}, {5, 12}, {9, 0}, {9, 99}, {2, 11}} {
		if _, e := share.Week(three(), x[0], x[1]); e != api.OK {
			t.Errorf("Week of %v: %d", x, e)
		}
	}
}

// noWeeks are films and weeks that the three books have not.
func noWeeks() map[string][2]int {
	all := map[string][2]int{
		"no film 6": {6, 11}, "no film 0": {0, 11}, "no film, no week": {-1, -1},
		"before First": {5, 9}, "after Last": {5, 13}, "before the only week": {2, 10}, "after the only week": {2, 12},
		"week of the film 9": {5, 99},
	}
	for how, n := range outside(0, 99) {
		all["Week "+how] = [2]int{9, n}
		all["Film "+how] = [2]int{n, 11}
	}
	return all
}

// P8.4 and P1: a film without a contract, and a week that is not from 0 to MaxWeeks, are ErrArg.
func TestErrorsOfDue(t *testing.T) {
	for how, n := range outside(0, 99) {
		for _, film := range []int{5, 9, 2} {
			checkDueError(t, "Week "+how, three(), film, n, api.ErrArg)
		}
		checkDueError(t, "Film "+how, three(), n, 11, api.ErrArg)
	}
	for _, film := range []int{0, 1, 6, 99} {
		checkDueError(t, "no contract", three(), film, 11, api.ErrArg)
	}
	checkDueError(t, "no contracts", api.Books{}, 0, 0, api.ErrArg)
	for _, film := range []int{5, 9, 2} {
		for _, week := range []int{0, 99} {
			if _, e := share.Due(three(), film, week); e != api.OK {
				t.Errorf("Due of %d after %d: %d", film, week, e)
			}
		}
	}
}

// P8.5, P8.6 and P1: a week that is not from 0 to MaxWeeks is ErrArg, before ErrPaid.
func TestErrorsOfWeeks(t *testing.T) {
	for _, b := range sound() {
		for how, week := range outside(0, 99) {
			checkTotalError(t, how, b, week, api.ErrArg)
			checkPayError(t, how, b, week, nil, api.ErrArg)
			checkPayError(t, how, b, week, []api.Payment{payment(6, -1)}, api.ErrArg)
		}
		for _, week := range []int{0, 99} {
			if _, e := share.Total(b, week); e != api.OK {
				t.Errorf("Total of %v after %d: %d", b, week, e)
			}
			if _, _, e := share.Pay(b, week, nil); e != api.OK {
				t.Errorf("Pay of %v after %d: %d", b, week, e)
			}
		}
	}
}

// P8.6 and P1: payments that cannot have been made are ErrPaid.
func TestErrorsOfPay(t *testing.T) {
	for name, l := range faultyPayments() {
		for _, week := range []int{0, 11, 99} {
			checkPayError(t, name, three(), week, l, api.ErrPaid)
		}
	}
	checkPayError(t, "no contracts", api.Books{}, 0, []api.Payment{payment(0, 0)}, api.ErrPaid)
	for how, week := range outside(0, 99) {
		for name, l := range faultyPayments() {
			checkPayError(t, name+", and a week "+how, three(), week, l, api.ErrArg)
		}
	}
}

// P8.7 and P1: what Week does not know, and a share that cannot be, are ErrArg.
func TestErrorsOfReach(t *testing.T) {
	for name, x := range noWeeks() {
		for _, cents := range []int{0, 10000000, -1} {
			checkReachError(t, name, three(), x[0], x[1], cents, api.ErrArg)
		}
	}
	for how, cents := range outside(0, 10000000) {
		for _, b := range []api.Books{exampleB(), three()} {
			checkReachError(t, "a share "+how, b, 5, 11, cents, api.ErrArg)
		}
	}
}

// The chapter's section Examples.
func TestExamples(t *testing.T) {
	checkWeek(t, "B", exampleB(), 5, 10, account(30000, 3000, 18900, api.ByStep))
	checkWeek(t, "B", exampleB(), 5, 11, account(4000, 400, 3000, api.ByFloor))
	checkWeek(t, "B", exampleB(), 5, 12, account(10001, 1000, 4500, api.ByStep))
	for week, want := range map[int]int{9: 0, 10: 18900, 11: 21900, 12: 40000} {
		checkDue(t, "B", exampleB(), 5, week, want)
	}
	checkPay(t, "B", exampleB(), 11, []api.Payment{payment(5, 20000)}, []api.Payment{payment(5, 1900)}, nil)
	for cents, want := range map[int]int{3000: 3333, 4000: 8888, 0: 0} {
		checkReach(t, "B", exampleB(), 5, 11, cents, want)
	}
}

func checkWeek(t *testing.T, name string, b api.Books, film, week int, want api.Account) {
	t.Helper()
	if a, e := share.Week(b, film, week); a != want || e != api.OK {
		t.Errorf("%s: Week of %v, %d and %d = %v, %d, not %v", name, b, film, week, a, e, want)
	}
}

func checkDue(t *testing.T, name string, b api.Books, film, week, want int) {
	t.Helper()
	if n, e := share.Due(b, film, week); n != want || e != api.OK {
		t.Errorf("%s: Due of %v, %d after %d = %d, %d, not %d", name, b, film, week, n, e, want)
	}
}

func checkTotal(t *testing.T, name string, b api.Books, week int, want api.Account) {
	t.Helper()
	if a, e := share.Total(b, week); a != want || e != api.OK {
		t.Errorf("%s: Total of %v and %d = %v, %d, not %v", name, b, week, a, e, want)
	}
}

func checkPay(t *testing.T, name string, b api.Books, week int, before, pay, over []api.Payment) {
	t.Helper()
	if p, o, e := share.Pay(b, week, before); !slices.Equal(p, pay) || !slices.Equal(o, over) || e != api.OK {
		t.Errorf("%s: Pay of %v after %d, with %v paid = %v, %v, %d, not %v, %v", name, b, week, before, p, o, e, pay, over)
	}
}

func checkReach(t *testing.T, name string, b api.Books, film, week, cents, want int) {
	t.Helper()
	if n, e := share.Reach(b, film, week, cents); n != want || e != api.OK {
		t.Errorf("%s: Reach of %v, %d and %d for %d = %d, %d, not %d", name, b, film, week, cents, n, e, want)
	}
}

// P8.3: the gross is what the last audit found, or what each till reported at last.
func TestGross(t *testing.T) {
	for name, x := range map[string]struct {
		l    []api.Report
		want int
	}{
		"nothing":                      {nil, 0},
		"one till":                     {[]api.Report{takings(4, 1, 3, 7, 100)}, 100},
		"two tills":                    {[]api.Report{takings(4, 1, 3, 7, 100), takings(2, 1, 3, 0, 30)}, 130},
		"a correction":                 {[]api.Report{takings(4, 1, 3, 7, 100), takings(5, 1, 3, 7, 30)}, 30},
		"a correction that came first": {[]api.Report{takings(5, 1, 3, 7, 30), takings(4, 1, 3, 7, 100)}, 30},
		"a correction to nothing":      {[]api.Report{takings(0, 1, 3, 7, 100), takings(1, 1, 3, 7, 0)}, 0},
		"a correction of the Id 0":     {[]api.Report{takings(1, 1, 3, 7, 30), takings(0, 1, 3, 7, 100)}, 30},
		"the last of three":            {[]api.Report{takings(5, 1, 3, 7, 30), takings(99, 1, 3, 7, 20), takings(6, 1, 3, 7, 40)}, 20},
		"a report that comes twice":    {[]api.Report{takings(4, 1, 3, 7, 100), takings(2, 1, 3, 0, 30), takings(4, 1, 3, 7, 100)}, 130},
		"the Id 0":                     {[]api.Report{takings(0, 1, 3, 0, 100)}, 100},
		"another week":                 {[]api.Report{takings(4, 1, 3, 7, 100), takings(5, 1, 4, 7, 30), takings(6, 1, 2, 6, 10)}, 100},
		"another film":                 {[]api.Report{takings(4, 1, 3, 7, 100), takings(5, 2, 3, 7, 30), takings(6, 2, 3, 6, 10)}, 100},
		"an audit":                     {[]api.Report{audit(4, 1, 3, 50)}, 50},
		"an audit after tills":         {[]api.Report{takings(4, 1, 3, 7, 100), takings(5, 1, 3, 0, 100), audit(6, 1, 3, 50)}, 50},
		"an audit before tills":        {[]api.Report{takings(4, 1, 3, 7, 100), takings(5, 1, 3, 0, 100), audit(0, 1, 3, 50)}, 50},
		"an audit of nothing":          {[]api.Report{takings(4, 1, 3, 0, 100), audit(6, 1, 3, 0)}, 0},
		"two audits":                   {[]api.Report{audit(6, 1, 3, 50), audit(5, 1, 3, 60)}, 50},
		"two audits of other tills":    {[]api.Report{{Id: 6, Kind: api.Audited, Film: 1, Week: 3, Till: 2, Cents: 50}, {Id: 7, Kind: api.Audited, Film: 1, Week: 3, Till: 1, Cents: 60}}, 60},
		"two audits around a till":     {[]api.Report{audit(6, 1, 3, 50), takings(7, 1, 3, 0, 100), audit(8, 1, 3, 60)}, 60},
		"an audit of another week":     {[]api.Report{takings(4, 1, 3, 7, 100), audit(6, 1, 4, 50)}, 100},
		"an audit of another film":     {[]api.Report{takings(4, 1, 3, 7, 100), audit(6, 2, 3, 50)}, 100},
	} {
		b := with(plain(), func(b *api.Books) { b.Contracts = append(b.Contracts, api.Contract{Film: 2, Last: 9, Steps: []int{0}}) })
		b.Reports = x.l
		checkWeek(t, name, b, 1, 3, account(x.want, 0, x.want/2, api.ByStep))
	}
}

// inWeek returns the books of a contract from the week 3 to 9, with a tax, of which an audit found a gross in a week.
func inWeek(tax, week, gross int, change func(c *api.Contract)) api.Books {
	c := api.Contract{Film: 1, First: 3, Last: 9, Steps: []int{500}}
	change(&c)
	return api.Books{Tax: tax, Contracts: []api.Contract{c}, Reports: []api.Report{audit(0, 1, week, gross)}}
}

// P8.3: tax, net, share, house and rule are what the contract says.
func TestWeek(t *testing.T) {
	steps := func(c *api.Contract) { c.Steps = []int{600, 400, 500} }
	tiers := func(c *api.Contract) { c.Tiers = []api.Tier{{From: 100, Mille: 600}, {From: 200, Mille: 800}} }
	falling := func(c *api.Contract) { c.Tiers = []api.Tier{{From: 100, Mille: 800}, {From: 200, Mille: 600}} }
	low := func(c *api.Contract) { c.Tiers = []api.Tier{{From: 0, Mille: 400}, {From: 1, Mille: 500}} }
	nut := func(c *api.Contract) { c.Nut, c.Over = 100, 900 }
	floor := func(c *api.Contract) { c.Floor = 100 }
	for name, x := range map[string]struct {
		b    api.Books
		week int
		want api.Account
	}{
		"nothing":                    {inWeek(100, 3, 0, steps), 3, account(0, 0, 0, api.ByStep)},
		"no reports":                 {inWeek(100, 3, 100, steps), 4, account(0, 0, 0, api.ByStep)},
		"the first step":             {inWeek(0, 3, 100, steps), 3, account(100, 0, 60, api.ByStep)},
		"the second step":            {inWeek(0, 4, 100, steps), 4, account(100, 0, 40, api.ByStep)},
		"the last step":              {inWeek(0, 5, 100, steps), 5, account(100, 0, 50, api.ByStep)},
		"behind the last step":       {inWeek(0, 6, 100, steps), 6, account(100, 0, 50, api.ByStep)},
		"far behind the last step":   {inWeek(0, 9, 100, steps), 9, account(100, 0, 50, api.ByStep)},
		"more steps than weeks":      {inWeek(0, 4, 100, func(c *api.Contract) { c.Last, c.Steps = 4, []int{1, 20, 300, 4} }), 4, account(100, 0, 2, api.ByStep)},
		"a step of 0":                {inWeek(0, 3, 100, func(c *api.Contract) { c.Steps = []int{0} }), 3, account(100, 0, 0, api.ByStep)},
		"a step of 1000":             {inWeek(100, 3, 101, func(c *api.Contract) { c.Steps = []int{1000} }), 3, account(101, 10, 91, api.ByStep)},
		"a share that is rounded":    {inWeek(0, 3, 199, steps), 3, account(199, 0, 119, api.ByStep)},
		"a tax that is rounded":      {inWeek(7, 3, 1142, steps), 3, account(1142, 7, 681, api.ByStep)},
		"a tax that is even":         {inWeek(7, 3, 1000, steps), 3, account(1000, 7, 595, api.ByStep)},
		"a tax below a cent":         {inWeek(7, 3, 142, steps), 3, account(142, 0, 85, api.ByStep)},
		"the greatest tax":           {inWeek(500, 3, 101, steps), 3, account(101, 50, 30, api.ByStep)},
		"below all tiers":            {inWeek(0, 3, 99, tiers), 3, account(99, 0, 49, api.ByStep)},
		"the first tier":             {inWeek(0, 3, 100, tiers), 3, account(100, 0, 60, api.ByStep)},
		"below the second tier":      {inWeek(0, 3, 199, tiers), 3, account(199, 0, 119, api.ByStep)},
		"the second tier":            {inWeek(0, 3, 200, tiers), 3, account(200, 0, 160, api.ByStep)},
		"a tier by gross":            {inWeek(100, 3, 110, tiers), 3, account(110, 11, 49, api.ByStep)},
		"a tier by net":              {inWeek(100, 3, 111, tiers), 3, account(111, 11, 60, api.ByStep)},
		"the greater tier before":    {inWeek(0, 3, 200, falling), 3, account(200, 0, 160, api.ByStep)},
		"tiers that are not above":   {inWeek(0, 3, 200, low), 3, account(200, 0, 100, api.ByStep)},
		"a tier above a later step":  {inWeek(0, 4, 100, func(c *api.Contract) { steps(c); tiers(c) }), 4, account(100, 0, 60, api.ByStep)},
		"below the nut":              {inWeek(0, 3, 99, nut), 3, account(99, 0, 49, api.ByStep)},
		"just at the nut":            {inWeek(0, 3, 100, nut), 3, account(100, 0, 50, api.ByStep)},
		"above the nut, not enough":  {inWeek(0, 3, 224, nut), 3, account(224, 0, 112, api.ByStep)},
		"above the nut, as much":     {inWeek(0, 3, 225, nut), 3, account(225, 0, 112, api.ByStep)},
		"above the nut, a cent more": {inWeek(0, 3, 226, nut), 3, account(226, 0, 113, api.ByStep)},
		"above the nut":              {inWeek(0, 3, 230, nut), 3, account(230, 0, 117, api.ByNut)},
		"above the nut by net":       {inWeek(100, 3, 300, nut), 3, account(300, 30, 153, api.ByNut)},
		"all above no nut":           {inWeek(0, 3, 100, func(c *api.Contract) { c.Over = 1000 }), 3, account(100, 0, 100, api.ByNut)},
		"the nut, which is rounded":  {inWeek(0, 3, 111, func(c *api.Contract) { nut(c); c.Steps[0] = 0 }), 3, account(111, 0, 9, api.ByNut)},
		"below the floor":            {inWeek(0, 3, 199, floor), 3, account(199, 0, 100, api.ByFloor)},
		"just at the floor":          {inWeek(0, 3, 200, floor), 3, account(200, 0, 100, api.ByStep)},
		"a floor above net":          {inWeek(100, 3, 110, floor), 3, account(110, 11, 99, api.ByFloor)},
		"a floor as much as net":     {inWeek(0, 3, 100, floor), 3, account(100, 0, 100, api.ByFloor)},
		"a floor of no takings":      {inWeek(0, 3, 0, floor), 3, account(0, 0, 0, api.ByFloor)},
		"a floor and no reports":     {inWeek(0, 3, 300, floor), 4, account(0, 0, 0, api.ByFloor)},
		"a floor as much as the nut": {inWeek(0, 3, 300, func(c *api.Contract) { c.Steps[0], c.Nut, c.Over, c.Floor = 0, 100, 500, 100 }), 3, account(300, 0, 100, api.ByNut)},
		"a floor a cent above":       {inWeek(0, 3, 300, func(c *api.Contract) { c.Steps[0], c.Nut, c.Over, c.Floor = 0, 100, 500, 101 }), 3, account(300, 0, 101, api.ByFloor)},
		"all the same":               {inWeek(0, 3, 300, func(c *api.Contract) { c.Steps[0], c.Over, c.Floor = 500, 500, 150 }), 3, account(300, 0, 150, api.ByStep)},
		"the greatest floor":         {inWeek(0, 3, 10000000, func(c *api.Contract) { c.Floor = 10000000 }), 3, account(10000000, 0, 10000000, api.ByFloor)},
	} {
		checkWeek(t, name, x.b, 1, x.week, x.want)
	}
}

// P8.3: a week at all limits.
func TestWeekAtLimits(t *testing.T) {
	rules := func(step, from, over int) api.Books {
		return with(full(), func(b *api.Books) {
			b.Contracts[0].Steps[0], b.Contracts[0].Over = step, over
			b.Contracts[0].Tiers = []api.Tier{{From: from, Mille: 1000}}
		})
	}
	checkWeek(t, "all that can be", full(), 99, 0, account(100000000, 50000000, 50000000, api.ByStep))
	checkWeek(t, "the last week", full(), 99, 99, account(100000000, 50000000, 50000000, api.ByStep))
	checkWeek(t, "nothing where all can be", full(), 99, 1, account(0, 0, 0, api.ByFloor))
	checkWeek(t, "nothing of another film", full(), 94, 0, account(0, 0, 0, api.ByFloor))
	checkWeek(t, "the greatest tier", rules(0, 10000000, 1000), 99, 0, account(100000000, 50000000, 50000000, api.ByStep))
	untiered := with(rules(0, 0, 1000), func(b *api.Books) { b.Contracts[0].Tiers = nil })
	checkWeek(t, "the greatest nut", untiered, 99, 0, account(100000000, 50000000, 40000000, api.ByNut))
	unshared := with(untiered, func(b *api.Books) { b.Contracts[0].Over = 0 })
	checkWeek(t, "the greatest floor", unshared, 99, 0, account(100000000, 50000000, 10000000, api.ByFloor))
	checkWeek(t, "the only week of a film", three(), 2, 11, account(509, 50, 229, api.ByStep))
	checkWeek(t, "a film that gets all", three(), 9, 11, account(1009, 100, 909, api.ByStep))
	checkWeek(t, "week 0 from contracts of 100 weeks", three(), 9, 0, account(0, 0, 0, api.ByStep))
}

// P8.4: Due is the sum of the shares up to a week, and after Last the guarantee at least.
func TestDue(t *testing.T) {
	sure := func(guarantee int) api.Books {
		return with(plain(takings(0, 1, 3, 0, 101), takings(1, 1, 3, 1, 100), takings(2, 1, 5, 0, 51)), func(b *api.Books) {
			b.Contracts[0].First, b.Contracts[0].Last, b.Contracts[0].Guarantee = 3, 6, guarantee
		})
	}
	for guarantee, last := range map[int]int{0: 125, 124: 125, 125: 125, 126: 126, 100000000: 100000000} {
		for week, want := range map[int]int{0: 0, 2: 0, 3: 100, 4: 100, 5: 125, 6: last, 7: last, 99: last} {
			checkDue(t, "a guarantee", sure(guarantee), 1, week, want)
		}
	}
	once := with(plain(), func(b *api.Books) { b.Contracts[0].First, b.Contracts[0].Last, b.Contracts[0].Guarantee = 5, 5, 7 })
	for week, want := range map[int]int{0: 0, 4: 0, 5: 7, 6: 7, 99: 7} {
		checkDue(t, "one week", once, 1, week, want)
	}
	for week, want := range map[int]int{0: 50000000, 32: 50000000, 33: 100000000, 65: 100000000, 66: 150000000, 98: 150000000, 99: 200000000} {
		checkDue(t, "all that can be", full(), 99, week, want)
	}
	for week, want := range map[int]int{0: 0, 98: 0, 99: 100000000} {
		checkDue(t, "the greatest guarantee of no takings", full(), 98, week, want)
	}
	for film, want := range map[int]int{5: 21900, 9: 909, 2: 300} {
		checkDue(t, "one of three", three(), film, 11, want)
	}
}

// P8.5: Total sums up all films that have a week.
func TestTotal(t *testing.T) {
	for week, want := range map[int]api.Account{
		0: {}, 9: {}, 13: {}, 99: {},
		10: account(30000, 3000, 18900, 0),
		11: account(4000+1009+509, 400+100+50, 3000+909+229, 0),
		12: account(10001, 1000, 4500, 0),
	} {
		checkTotal(t, "three", three(), week, want)
	}
	checkTotal(t, "one", exampleB(), 11, account(4000, 400, 3000, 0))
	checkTotal(t, "one, a week that it has not", exampleB(), 9, api.Account{})
	checkTotal(t, "no contracts", api.Books{}, 0, api.Account{})
	checkTotal(t, "a floor and no takings", with(exampleB(), func(b *api.Books) { b.Reports = nil }), 11, api.Account{})
	checkTotal(t, "all that can be", full(), 33, account(100000000, 50000000, 50000000, 0))
	all := with(full(), func(b *api.Books) {
		for n, c := range b.Contracts {
			b.Reports[n] = audit(n, c.Film, 0, api.MaxTake)
		}
		b.Reports = b.Reports[:len(b.Contracts)]
	})
	checkTotal(t, "all films", all, 0, account(60000000, 30000000, 30000000, 0))
}

// P8.6: Pay says what is still due, or was paid too much, film by film.
func TestPay(t *testing.T) {
	list := func(l ...int) []api.Payment {
		var all []api.Payment
		for n := 0; n < len(l); n += 2 {
			all = append(all, payment(l[n], l[n+1]))
		}
		return all
	}
	for name, x := range map[string]struct {
		week              int
		before, pay, over []api.Payment
	}{
		"nothing paid":              {11, nil, list(2, 300, 5, 21900, 9, 909), nil},
		"nothing due":               {9, nil, nil, nil},
		"nothing due yet":           {0, list(5, 1), nil, list(5, 1)},
		"nothing due of the others": {10, nil, list(5, 18900), nil},
		"in part":                   {11, list(2, 299, 5, 1, 9, 0), list(2, 1, 5, 21899, 9, 909), nil},
		"just as much":              {11, list(9, 909, 5, 21900, 2, 300), nil, nil},
		"too much":                  {11, list(9, 910, 5, 21901, 2, 1000), nil, list(2, 700, 5, 1, 9, 1)},
		"all of these":              {11, list(9, 1000, 5, 21900, 2, 1), list(2, 299), list(9, 91)},
		"one too much, two not":     {11, list(5, 30000), list(2, 300, 9, 909), list(5, 8100)},
		"two too much, one not":     {11, list(9, 1000, 2, 301), list(5, 21900), list(2, 1, 9, 91)},
		"more than once":            {11, list(5, 20000, 2, 100, 5, 1900, 2, 100), list(2, 100, 9, 909), nil},
		"equal payments":            {11, list(2, 100, 2, 100, 2, 100, 5, 21900, 9, 500, 9, 500), nil, list(9, 91)},
		"0 cents":                   {11, list(2, 0, 2, 0, 9, 0), list(2, 300, 5, 21900, 9, 909), nil},
		"the guarantee":             {12, list(5, 21900, 2, 300, 9, 909), list(5, 18100), nil},
		"the last week":             {99, nil, list(2, 300, 5, 40000, 9, 909), nil},
		"as much as can be":         {99, slices.Repeat(list(5, 1000000000), 100), list(2, 300, 9, 909), list(5, 99999960000)},
		"100 payments":              {99, append(slices.Repeat(list(2, 3), 99), payment(9, 909)), list(2, 3, 5, 40000), nil},
	} {
		checkPay(t, name, three(), x.week, x.before, x.pay, x.over)
	}
	checkPay(t, "no contracts", api.Books{}, 0, nil, nil, nil)
	checkPay(t, "the greatest guarantee", full(), 99, list(99, 1000000000), list(94, 100000000, 95, 100000000, 96, 100000000, 97, 100000000, 98, 100000000), list(99, 800000000))
}

// P8.7: Reach is the least that an audit has to find.
func TestReach(t *testing.T) {
	checkReach(t, "half of it", plain(), 1, 0, 1, 2)
	checkReach(t, "half of it", plain(), 1, 0, 50, 100)
	checkReach(t, "half of all", plain(), 1, 0, 5000000, 10000000)
	checkReachError(t, "half of more than all", plain(), 1, 0, 5000001, api.ErrNone)
	checkReachError(t, "all of half", plain(), 1, 0, 10000000, api.ErrNone)
	checkReach(t, "nothing of nothing", inWeek(0, 3, 0, func(c *api.Contract) { c.Steps[0] = 0 }), 1, 3, 0, 0)
	checkReachError(t, "a cent of nothing", inWeek(0, 3, 0, func(c *api.Contract) { c.Steps[0] = 0 }), 1, 3, 1, api.ErrNone)
	whole := inWeek(0, 3, 0, func(c *api.Contract) { c.Steps[0] = 1000 })
	checkReach(t, "all of it", whole, 1, 3, 10000000, 10000000)
	checkReach(t, "all but a cent", whole, 1, 3, 9999999, 9999999)
	tier := inWeek(0, 3, 0, func(c *api.Contract) { c.Tiers = []api.Tier{{From: 1000, Mille: 900}} })
	checkReach(t, "below the tier", tier, 1, 3, 499, 998)
	checkReach(t, "by the tier", tier, 1, 3, 500, 1000)
	checkReach(t, "just by the tier", tier, 1, 3, 900, 1000)
	checkReach(t, "above the tier", tier, 1, 3, 901, 1002)
	floor := inWeek(100, 3, 0, func(c *api.Contract) { c.Floor = 90 })
	checkReach(t, "the floor", floor, 1, 3, 90, 99)
	checkReach(t, "above the floor", floor, 1, 3, 91, 202)
	nut := inWeek(0, 3, 0, func(c *api.Contract) { c.Nut, c.Over, c.Steps[0] = 1000, 1000, 0 })
	checkReach(t, "the nut", nut, 1, 3, 1, 1001)
	checkReach(t, "the nut of all", nut, 1, 3, 9999000, 10000000)
	checkReachError(t, "more than all above the nut", nut, 1, 3, 9999001, api.ErrNone)
	second := inWeek(0, 4, 0, func(c *api.Contract) { c.Steps = []int{1000, 100} })
	checkReach(t, "the first week", second, 1, 3, 10, 10)
	checkReach(t, "the second week", second, 1, 4, 10, 100)
	// What came before does not matter, also if there is no greater Id, and no place for one more report.
	checkReach(t, "no greater Id", reporting(plain(), audit(99, 1, 0, 7)), 1, 0, 50, 100)
	checkReach(t, "40 reports", full(), 99, 0, 5000000, 9999999)
	checkReachError(t, "a tax of half, for all", full(), 99, 0, 5000001, api.ErrNone)
	checkReach(t, "less than what is reported", exampleB(), 5, 10, 3000, 3333)
}
