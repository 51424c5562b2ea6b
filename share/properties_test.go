package share_test

import (
	"math/rand"
	"slices"
	"testing"

	"bijou/api"
	"bijou/seats"
	"bijou/share"
	"bijou/week"
)

// P8.3, P8.4, P8.5 and P8.6: Week, Due, Total and Pay are what the words of the document say.
func TestByWords(t *testing.T) {
	eachBooks(3, 1500, 30, func(rnd *rand.Rand, b api.Books) {
		eachWeek(b, func(c api.Contract, week int) { checkWeek(t, "random", b, c.Film, week, accountBy(b, c, week)) })
		for week := range 12 {
			checkTotal(t, "random", b, week, totalBy(b, week))
			for _, c := range b.Contracts {
				checkDue(t, "random", b, c.Film, week, dueBy(b, c, week))
			}
			before := randomPayments(rnd, b)
			pay, over := payBy(b, week, before)
			checkPay(t, "random", b, week, before, pay, over)
		}
	})
}

// P8.8 (to the cent): in each account, and in Total, Gross is Tax, Share and House together, and nothing is below 0.
func TestToTheCent(t *testing.T) {
	shared := 0
	check := func(b api.Books, a api.Account) {
		if a.Gross != a.Tax+a.Share+a.House || a.Gross != a.Tax+a.Net || min(a.Gross, a.Tax, a.Net, a.Share, a.House, a.Rule) < 0 {
			t.Errorf("an account of %v is %v", b, a)
		}
		if min(a.Tax, a.Share, a.House) > 0 {
			shared++
		}
	}
	eachBooks(8, 1500, 30, func(_ *rand.Rand, b api.Books) {
		eachWeek(b, func(c api.Contract, week int) { check(b, weekOf(b, c.Film, week)) })
		for week := range 12 {
			check(b, totalOf(b, week))
		}
	})
	for _, b := range sound() {
		for week := range api.MaxWeeks + 1 {
			check(b, totalOf(b, week))
		}
	}
	if shared < 1000 {
		t.Errorf("only %d accounts had a tax, a share and something for the house", shared)
	}
}

// P8.9 (the rule): the Share is what its Rule says, or Net if that is less; no other rule gives more.
func TestRule(t *testing.T) {
	rules, tiers, bounded, equals := map[int]int{}, 0, 0, 0
	eachBooks(9, 1500, 30, func(_ *rand.Rand, b api.Books) {
		eachWeek(b, func(c api.Contract, week int) {
			a := weekOf(b, c.Film, week)
			most := shareBy(c, week, a.Net, a.Rule)
			if a.Share != min(most, a.Net) || a.Rule < api.ByStep || a.Rule > api.ByFloor {
				t.Errorf("Week of %v, %d and %d is %v, but by the rule it is %d", b, c.Film, week, a, most)
			}
			for rule := api.ByStep; rule <= api.ByFloor; rule++ {
				cents := shareBy(c, week, a.Net, rule)
				if cents > most || cents == most && rule < a.Rule {
					t.Errorf("Week of %v, %d and %d is %v, but by the rule %d it is %d", b, c.Film, week, a, rule, cents)
				}
				if cents == most && rule > a.Rule && a.Net > 0 {
					equals++
				}
			}
			rules[a.Rule]++
			if most > a.Net {
				bounded++
			}
			if _, byTier := milleBy(c, week, a.Net); byTier && a.Rule == api.ByStep {
				tiers++
			}
		})
	})
	if min(rules[api.ByStep], rules[api.ByNut], rules[api.ByFloor], tiers, bounded) < 500 || equals < 5 {
		t.Errorf("so often each rule: %v, a tier %d, a share above net %d, two rules the same %d", rules, tiers, bounded, equals)
	}
}

// answers are what all calls but Merge say of books.
type answers struct {
	accounts  []api.Account
	cents     []int
	pay, over []api.Payment
}

// ask returns all answers about the films and weeks of books, of which those that are given are a mix.
func ask(b, given api.Books, before []api.Payment) answers {
	var a answers
	for week := range 12 {
		total, _ := share.Total(given, week)
		a.accounts = append(a.accounts, total)
		pay, over, _ := share.Pay(given, week, before)
		a.pay, a.over = append(a.pay, pay...), append(a.over, over...)
		for _, c := range b.Contracts {
			account, _ := share.Week(given, c.Film, week)
			due, _ := share.Due(given, c.Film, week)
			reach, _ := share.Reach(given, c.Film, week, 100)
			a.accounts, a.cents = append(a.accounts, account), append(a.cents, due, reach)
		}
	}
	return a
}

func sameAnswers(a, b answers) bool {
	return slices.Equal(a.accounts, b.accounts) && slices.Equal(a.cents, b.cents) && slices.Equal(a.pay, b.pay) && slices.Equal(a.over, b.over)
}

// P8.10 (any order): the order of reports and contracts, and reports that come twice, change nothing.
func TestAnyOrder(t *testing.T) {
	eachBooks(10, 600, 20, func(rnd *rand.Rand, b api.Books) {
		before := randomPayments(rnd, b)
		want := ask(b, b, before)
		mixed := with(b, func(b *api.Books) {
			b.Reports = append(b.Reports, b.Reports...)
			shuffle(rnd, b.Reports)
			shuffle(rnd, b.Contracts)
		})
		shuffle(rnd, before)
		if got := ask(b, mixed, before); !sameAnswers(got, want) {
			t.Errorf("of %v is said %v, but of %v %v", b, want, mixed, got)
		}
		merged, e := share.Merge(mixed, nil)
		if got := ask(b, merged, before); e != api.OK || !sameAnswers(got, want) {
			t.Errorf("of %v is said %v, but after Merge of %v, %d: %v", b, want, merged, e, got)
		}
	})
}

// P8.2 and P8.10: Merge is the same, whichever of the reports come late, and how often.
func TestMergeInAnyOrder(t *testing.T) {
	eachBooks(210, 1000, 20, func(rnd *rand.Rand, b api.Books) {
		want := with(b, func(b *api.Books) { b.Reports = onceById(b.Reports) })
		for range 3 {
			l := append(slices.Clone(b.Reports), b.Reports...)
			shuffle(rnd, l)
			first := rnd.Intn(len(l) + 1)
			second := first + rnd.Intn(len(l)-first+1)
			early := with(b, func(b *api.Books) { b.Reports = l[:first] })
			got, e := share.Merge(early, l[first:])
			if e != api.OK || !equal(got, want) {
				t.Errorf("Merge of %v and %v = %v, %d, not %v", early, l[first:], got, e, want)
			}
			got, e = share.Merge(early, l[first:second])
			if e != api.OK {
				t.Errorf("Merge of %v and %v: %d", early, l[first:second], e)
			}
			got, e = share.Merge(got, l[second:])
			if e != api.OK || !equal(got, want) {
				t.Errorf("Merge of %v, %v and %v = %v, %d, not %v", early, l[first:second], l[second:], got, e, want)
			}
		}
	})
}

// freeId is an Id that no report has.
func freeId(rnd *rand.Rand, b api.Books) int {
	for {
		id := rnd.Intn(api.MaxId + 1)
		if !slices.ContainsFunc(b.Reports, func(r api.Report) bool { return r.Id == id }) {
			return id
		}
	}
}

// P8.11 (more takings): with one more report of a till that has not reported for a film and a week without audits the Share does not become less.
func TestMoreTakings(t *testing.T) {
	more, same := 0, 0
	eachBooks(11, 20000, 8, func(rnd *rand.Rand, b api.Books) {
		r := randomReport(rnd, b.Contracts[0], freeId(rnd, b))
		r.Kind = api.Takings
		if slices.ContainsFunc(b.Reports, func(other api.Report) bool {
			return other.Film == r.Film && other.Week == r.Week && (other.Kind == api.Audited || other.Till == r.Till)
		}) {
			return
		}
		before, after := weekOf(b, r.Film, r.Week), weekOf(reporting(b, r), r.Film, r.Week)
		if after.Gross != before.Gross+r.Cents || after.Net < before.Net {
			t.Errorf("Week of %v is %v, with %v %v", b, before, r, after)
		}
		switch {
		case after.Share < before.Share:
			t.Errorf("Week of %v is %v, with %v %v", b, before, r, after)
		case after.Share > before.Share:
			more++
		default:
			same++
		}
	})
	if more < 1000 || same < 100 {
		t.Errorf("%d times the share was greater, %d times the same", more, same)
	}
}

// P8.12 (instalments): after what Pay says is paid, nothing is left to pay.
func TestNothingLeft(t *testing.T) {
	paid, back := 0, 0
	eachBooks(12, 1000, 20, func(rnd *rand.Rand, b api.Books) {
		for week := range 12 {
			before := randomPayments(rnd, b)
			pay, over, e := share.Pay(b, week, before)
			if e != api.OK {
				t.Errorf("Pay of %v after %d, with %v paid: %d", b, week, before, e)
			}
			paid, back = paid+len(pay), back+len(over)
			checkPay(t, "after all that was said", b, week, append(before, pay...), nil, over)
		}
	})
	if paid < 1000 || back < 1000 {
		t.Errorf("%d times something was to be paid, %d times too much was paid", paid, back)
	}
}

// sums are the cents that were paid for each film, less what was given back.
type sums map[int]int

// settle pays what Pay says, and gives back what was too much, and tells how often something was given back.
func (s sums) settle(t *testing.T, b api.Books, week int) int {
	var before []api.Payment
	for film, cents := range s {
		before = append(before, payment(film, cents))
	}
	pay, over, e := share.Pay(b, week, before)
	if e != api.OK {
		t.Errorf("Pay of %v after %d, with %v paid: %d", b, week, before, e)
	}
	for _, p := range pay {
		s[p.Film] += p.Cents
	}
	for _, p := range over {
		s[p.Film] -= p.Cents
	}
	return len(over)
}

// P8.12: if reports come one after the other, and each time is paid what Pay says and given back what was too much, all together is what is due in the end.
func TestInstalments(t *testing.T) {
	back := 0
	eachBooks(112, 600, 20, func(rnd *rand.Rand, b api.Books) {
		s := sums{}
		for n := range b.Reports {
			early := with(b, func(b *api.Books) { b.Reports = b.Reports[:n] })
			back += s.settle(t, early, rnd.Intn(12))
		}
		week := rnd.Intn(12)
		s.settle(t, b, week)
		for _, c := range b.Contracts {
			if s[c.Film] != dueOf(b, c.Film, week) {
				t.Errorf("%v is paid for %d of %v after %d, but %d is due", s, c.Film, b, week, dueOf(b, c.Film, week))
			}
		}
	})
	if back < 1000 {
		t.Errorf("only %d times something was given back", back)
	}
}

// P8.13 (the guarantee): what is due never becomes less from week to week; after Last it is at least Guarantee.
func TestGuarantee(t *testing.T) {
	guaranteed, above := 0, 0
	eachBooks(13, 600, 30, func(_ *rand.Rand, b api.Books) {
		for _, c := range b.Contracts {
			before := 0
			for week := range api.MaxWeeks + 1 {
				cents := dueOf(b, c.Film, week)
				if cents < before || week < c.First && cents != 0 || week >= c.Last && cents < c.Guarantee {
					t.Errorf("Due of %v, %d after %d is %d, before it was %d", b, c.Film, week, cents, before)
				}
				before = cents
			}
			if before == c.Guarantee {
				guaranteed++
			} else {
				above++
			}
		}
	})
	if guaranteed < 200 || above < 200 {
		t.Errorf("%d times the guarantee was due, %d times more", guaranteed, above)
	}
}

// P8.14 (reach): with Reach the share is reached, with a cent less it is not, if Reach is above 0.
func TestReached(t *testing.T) {
	reached, none := 0, 0
	check := func(b api.Books, c api.Contract, week, cents int) {
		found := func(gross int) int { return weekOf(reporting(b, audit(99, c.Film, week, gross)), c.Film, week).Share }
		n, e := share.Reach(b, c.Film, week, cents)
		if e == api.ErrNone {
			none++
			if n != 0 || found(api.MaxTake) >= cents {
				t.Errorf("Reach of %v, %d and %d for %d = %d, %d", b, c.Film, week, cents, n, e)
			}
			return
		}
		reached++
		if e != api.OK || found(n) < cents || n > 0 && found(n-1) >= cents {
			t.Errorf("Reach of %v, %d and %d for %d = %d, %d", b, c.Film, week, cents, n, e)
		}
	}
	eachBooks(14, 800, 20, func(rnd *rand.Rand, b api.Books) {
		eachWeek(b, func(c api.Contract, week int) {
			check(b, c, week, rnd.Intn(1500))
			check(b, c, week, rnd.Intn(api.MaxTake+1))
		})
	})
	if reached < 1000 || none < 1000 {
		t.Errorf("%d times the share could be reached, %d times not", reached, none)
	}
}

// P8.15 (corrections): a report with a greater Id of the same till, film and week makes the earlier one count for nothing.
func TestCorrections(t *testing.T) {
	eachBooks(15, 2000, 20, func(rnd *rand.Rand, b api.Books) {
		r := randomReport(rnd, b.Contracts[0], freeId(rnd, b))
		r.Kind = api.Takings
		late := with(b, func(b *api.Books) { b.Reports = slices.Insert(b.Reports, rnd.Intn(len(b.Reports)+1), r) })
		left := with(late, func(b *api.Books) {
			b.Reports = slices.DeleteFunc(b.Reports, func(other api.Report) bool {
				return other.Kind == api.Takings && other.Film == r.Film && other.Week == r.Week && other.Till == r.Till && other.Id < r.Id
			})
		})
		if got, want := ask(b, late, nil), ask(b, left, nil); !sameAnswers(got, want) {
			t.Errorf("of %v is said %v, but of %v %v", late, got, left, want)
		}
	})
}

// P8.15: an audit makes all reports of tills for its film and week count for nothing, and all audits with lower Ids.
func TestAudits(t *testing.T) {
	changed := 0
	eachBooks(115, 2000, 20, func(rnd *rand.Rand, b api.Books) {
		r := randomReport(rnd, b.Contracts[0], freeId(rnd, b))
		r.Kind = api.Audited
		late := with(b, func(b *api.Books) { b.Reports = slices.Insert(b.Reports, rnd.Intn(len(b.Reports)+1), r) })
		left := with(late, func(b *api.Books) {
			b.Reports = slices.DeleteFunc(b.Reports, func(other api.Report) bool {
				return other.Film == r.Film && other.Week == r.Week && (other.Kind == api.Takings || other.Id < r.Id)
			})
		})
		if got, want := ask(b, late, nil), ask(b, left, nil); !sameAnswers(got, want) {
			t.Errorf("of %v is said %v, but of %v %v", late, got, left, want)
		}
		if !sameAnswers(ask(b, late, nil), ask(b, b, nil)) {
			changed++
		}
	})
	if changed < 500 {
		t.Errorf("only %d audits changed anything", changed)
	}
}

// P0.4 (the last cent): if tills report what the shows of a program take, tax, shares and what stays with the house are together just this.
func TestLastCent(t *testing.T) {
	shared := 0
	rnd := rand.New(rand.NewSource(104))
	for range 1000 {
		w := randomWeek(rnd)
		b := api.Books{Tax: rnd.Intn(api.MaxTax + 1)}
		for film := range w.Films {
			c := randomContract(rnd, film)
			c.First, c.Last = 1, 3
			b.Contracts = append(b.Contracts, c)
		}
		best, _ := week.Best(w)
		for _, p := range [][]int{best, anyProgram(rnd, w)} {
			takes, e := week.Takings(w, p)
			if e != api.OK {
				t.Fatalf("Takings of %v by %v: %d", w, p, e)
			}
			told := reporting(b, reportsOf(t, w, p, 2)...)
			a, e := share.Total(told, 2)
			if e != api.OK || a.Tax+a.Share+a.House != takes || a.Gross != takes {
				t.Errorf("Total of %v = %v, %d, but the program takes %d", told, a, e, takes)
			}
			if min(a.Tax, a.Share, a.House) > 0 {
				shared++
			}
		}
	}
	if shared < 500 {
		t.Errorf("only %d times there was a tax, a share and something for the house", shared)
	}
}

// randomWeek has no deals.
func randomWeek(rnd *rand.Rand) api.Week {
	w := api.Week{Days: 1 + rnd.Intn(2), Rooms: []int{100, 60}[:1+rnd.Intn(2)], Hours: 1 + rnd.Intn(2)}
	for range 1 + rnd.Intn(3) {
		w.Films = append(w.Films, api.Movie{Price: rnd.Intn(20), Crowd: []int{rnd.Intn(200), rnd.Intn(200)}[:w.Hours]})
	}
	return w
}

// anyProgram has any films, or none, in the slots of a week.
func anyProgram(rnd *rand.Rand, w api.Week) []int {
	var p []int
	for range w.Days * len(w.Rooms) * w.Hours {
		p = append(p, rnd.Intn(len(w.Films)+1)-1)
	}
	return p
}

// reportsOf are those of tills each of which sold one show of a program.
func reportsOf(t *testing.T, w api.Week, p []int, number int) []api.Report {
	var l []api.Report
	for slot, film := range p {
		if film == api.Dark {
			continue
		}
		alone := slices.Repeat([]int{api.Dark}, len(p))
		alone[slot] = film
		takes, e := week.Takings(w, alone)
		if e != api.OK {
			t.Fatalf("Takings of %v by %v: %d", w, alone, e)
		}
		l = append(l, takings(slot, film, number, slot, takes))
	}
	return l
}

// P0.13 (the box office): if tills report the price of all seats that are sold, the gross of the week is the price times these seats, in whatever order they report, and an audit of the hall finds the same.
func TestBoxOffice(t *testing.T) {
	some := 0
	rnd := rand.New(rand.NewSource(113))
	for range 1000 {
		h := api.Hall{Rows: []int{5 + rnd.Intn(8), 5 + rnd.Intn(8), 5 + rnd.Intn(8)}, Hold: 1 + rnd.Intn(30)}
		calls, price := randomCalls(rnd), 1+rnd.Intn(50)
		sold := soldTo(t, h, calls)
		found := price * soldSeats(t, h, calls, sold)
		b := with(plain(), func(b *api.Books) { b.Contracts[0].Steps[0] = rnd.Intn(1001) })
		b.Reports = boxOffice(rnd, sold, price)
		shuffle(rnd, b.Reports)
		a, e := share.Week(b, 1, 4)
		if e != api.OK || a.Gross != found {
			t.Errorf("Week of %v = %v, %d, but seats for %d are sold", b, a, e, found)
		}
		checkWeek(t, "an audit", reporting(b, audit(99, 1, 4, found)), 1, 4, a)
		if found > 0 {
			some++
		}
	}
	if some < 300 {
		t.Errorf("only %d times some seats were sold", some)
	}
}

// evening is the minute after which nobody calls.
const evening = 100

// randomCalls are of orders from 0 to 9, some of which ask, pay or drop.
func randomCalls(rnd *rand.Rand) []api.Call {
	var l []api.Call
	for id := range rnd.Intn(api.MaxCalls + 1) {
		c := api.Call{Id: id, At: rnd.Intn(evening), Kind: api.AskSeats + rnd.Intn(3), Order: rnd.Intn(10)}
		if rnd.Intn(8) > 0 && c.Kind == api.DropSeats {
			c.Kind = api.PaySeats
		}
		if c.Kind == api.AskSeats {
			c.Size = 1 + rnd.Intn(5)
		}
		l = append(l, c)
	}
	return l
}

// soldTo returns how many seats are sold to each order that has paid some.
func soldTo(t *testing.T, h api.Hall, calls []api.Call) map[int]int {
	sold := map[int]int{}
	for order := range 10 {
		p, e := seats.Order(h, calls, evening, order)
		if e != api.OK {
			t.Fatalf("Order of %v, %v: %d", h, calls, e)
		}
		if p.State == api.Sold {
			sold[order] = p.Size
		}
	}
	return sold
}

// soldSeats counts the seats of the hall that are sold.
func soldSeats(t *testing.T, h api.Hall, calls []api.Call, sold map[int]int) int {
	rows, e := seats.Map(h, calls, evening)
	if e != api.OK {
		t.Fatalf("Map of %v, %v: %d", h, calls, e)
	}
	n := 0
	for _, order := range slices.Concat(rows...) {
		if sold[order] > 0 {
			n++
		}
	}
	return n
}

// boxOffice are the reports of three tills, each of which tells again what it took in all after each order.
func boxOffice(rnd *rand.Rand, sold map[int]int, price int) []api.Report {
	var l []api.Report
	took := [3]int{}
	for order := range 10 {
		if sold[order] > 0 {
			till := rnd.Intn(len(took))
			took[till] += price * sold[order]
			l = append(l, takings(10+order, 1, 4, till, took[till]))
		}
	}
	return l
}
