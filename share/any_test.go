package share_test

import (
	"math"
	"math/rand"
	"slices"
	"testing"

	"bijou/api"
	"bijou/share"
)

// P1 and R4: no call changes its argument.
func TestArguments(t *testing.T) {
	rnd := rand.New(rand.NewSource(1))
	for n, b := range sound() {
		// Reports and payments that are not in order would show a call that sorts its argument.
		shuffle(rnd, b.Reports)
		more, before := slices.Clone(b.Reports), []api.Payment(nil)
		for _, c := range b.Contracts {
			before = append([]api.Payment{payment(c.Film, 7)}, before...)
		}
		books, reports, payments := clone(b), slices.Clone(more), slices.Clone(before)
		share.Check(b)
		share.Merge(b, more)
		share.Pay(b, 11, before)
		ask(b, b, before)
		if !equal(b, books) || !slices.Equal(more, reports) || !slices.Equal(before, payments) {
			t.Errorf("%d: %v was changed to %v, %v to %v, %v to %v", n, books, b, reports, more, payments, before)
		}
	}
}

// P1 and R4: what a call returns shares no memory with an argument, or with another result.
func TestMemory(t *testing.T) {
	for n, b := range sound() {
		for _, more := range [][]api.Report{nil, slices.Clone(b.Reports)} {
			books, reports := clone(b), slices.Clone(more)
			first, _ := share.Merge(b, more)
			was := clone(first)
			second, _ := share.Merge(b, more)
			spoil(second)
			if !equal(first, was) || !equal(b, books) || !slices.Equal(more, reports) {
				t.Errorf("%d: %v was changed to %v, %v to %v, %v to %v", n, was, first, books, b, reports, more)
			}
		}
	}
	before := []api.Payment{payment(9, 1000), payment(2, 1000)}
	pay, over, _ := share.Pay(three(), 11, before)
	spoilList(pay, payment(77, 77))
	if !slices.Equal(over, []api.Payment{payment(2, 700), payment(9, 91)}) || !slices.Equal(before, []api.Payment{payment(9, 1000), payment(2, 1000)}) {
		t.Errorf("over was changed to %v, before to %v", over, before)
	}
}

// spoil overwrites all that books hold, and what may lie behind it.
func spoil(b api.Books) {
	for _, c := range b.Contracts {
		spoilList(c.Steps, 77)
		spoilList(c.Tiers, api.Tier{From: 77, Mille: 77})
	}
	spoilList(b.Contracts, api.Contract{Film: 77})
	spoilList(b.Reports, takings(77, 77, 77, 7, 77))
}

func spoilList[T any](l []T, x T) {
	l = l[:cap(l)]
	for n := range l {
		l[n] = x
	}
}

// R4: the contracts of one result share no memory, also if those of the argument do.
func TestMemoryOfContracts(t *testing.T) {
	steps, tiers := []int{600, 500}, []api.Tier{{From: 1, Mille: 700}}
	var b api.Books
	for film := range 3 {
		b.Contracts = append(b.Contracts, api.Contract{Film: film, Steps: steps, Tiers: tiers})
	}
	merged, _ := share.Merge(b, nil)
	if !equal(merged, b) {
		t.Fatalf("Merge of %v = %v", b, merged)
	}
	spoilList(merged.Contracts[0].Steps, 77)
	spoilList(merged.Contracts[0].Tiers, api.Tier{})
	for _, c := range append(merged.Contracts[1:], b.Contracts...) {
		if !slices.Equal(c.Steps, []int{600, 500}) || !slices.Equal(c.Tiers, []api.Tier{{From: 1, Mille: 700}}) {
			t.Errorf("the contract of the film %d was changed to %v", c.Film, c)
		}
	}
}

// R3: nil and empty slices are the same.
func TestNilAndEmpty(t *testing.T) {
	for _, b := range []api.Books{{}, {Contracts: []api.Contract{}, Reports: []api.Report{}}} {
		for _, more := range [][]api.Report{nil, {}} {
			if got, e := share.Merge(b, more); e != api.OK || !equal(got, api.Books{}) {
				t.Errorf("Merge of nothing = %v, %d", got, e)
			}
		}
		for _, before := range [][]api.Payment{nil, {}} {
			checkPay(t, "nothing", b, 0, before, nil, nil)
		}
	}
	for _, tiers := range [][]api.Tier{nil, {}} {
		b := with(exampleB(), func(b *api.Books) { b.Contracts[0].Tiers = tiers })
		checkWeek(t, "no tiers", b, 5, 10, account(30000, 3000, 17100, api.ByNut))
		for _, reports := range [][]api.Report{nil, {}} {
			b.Reports = reports
			checkWeek(t, "no reports", b, 5, 10, account(0, 0, 0, api.ByFloor))
			checkDue(t, "no reports", b, 5, 12, 40000)
		}
	}
}

// odd returns a number, or sometimes one that cannot be.
func odd(rnd *rand.Rand, n int) int {
	if rnd.Intn(200) == 0 {
		return []int{math.MinInt, math.MaxInt, -1, 10, 100, 501, 1001, 10000001, 1 << 32}[rnd.Intn(9)]
	}
	return n
}

// anyBooks are random ones, some numbers of which may be odd.
func anyBooks(rnd *rand.Rand) api.Books {
	b := randomBooks(rnd, 12)
	b.Tax = odd(rnd, b.Tax)
	for n := range b.Contracts {
		c := &b.Contracts[n]
		for _, x := range []*int{&c.Film, &c.First, &c.Last, &c.Nut, &c.Over, &c.Floor, &c.Guarantee} {
			*x = odd(rnd, *x)
		}
		for step := range c.Steps {
			c.Steps[step] = odd(rnd, c.Steps[step])
		}
		for tier, x := range c.Tiers {
			c.Tiers[tier] = api.Tier{From: odd(rnd, x.From), Mille: odd(rnd, x.Mille)}
		}
	}
	for n := range b.Reports {
		b.Reports[n] = anyReport(rnd, b.Reports[n])
	}
	return b
}

func anyReport(rnd *rand.Rand, r api.Report) api.Report {
	for _, x := range []*int{&r.Id, &r.Kind, &r.Film, &r.Week, &r.Till, &r.Cents} {
		*x = odd(rnd, *x)
	}
	return r
}

// P1: with any numbers at all every call returns, and an error comes with zero values.
func TestAnyArguments(t *testing.T) {
	rnd := rand.New(rand.NewSource(4))
	found := map[api.Errno]int{}
	for range 6000 {
		b := anyBooks(rnd)
		e := share.Check(b)
		found[e]++
		if e != api.OK {
			checkErrors(t, "any books", b, e)
			continue
		}
		c := b.Contracts[rnd.Intn(len(b.Contracts))]
		checkAnyCalls(t, rnd, b, odd(rnd, c.Film), odd(rnd, rnd.Intn(9)))
	}
	if found[api.OK] < 1000 || found[api.ErrBooks] < 300 || found[api.ErrReport] < 300 {
		t.Errorf("so often books had each error: %v", found)
	}
}

func checkAnyCalls(t *testing.T, rnd *rand.Rand, b api.Books, film, number int) {
	t.Helper()
	n := slices.IndexFunc(b.Contracts, func(c api.Contract) bool { return c.Film == film })
	inRange := 0 <= number && number <= 99
	if n >= 0 && b.Contracts[n].First <= number && number <= b.Contracts[n].Last {
		checkWeek(t, "any week", b, film, number, accountBy(b, b.Contracts[n], number))
	} else {
		checkWeekError(t, "any week", b, film, number, api.ErrArg)
		checkReachError(t, "any week", b, film, number, 0, api.ErrArg)
	}
	if n >= 0 && inRange {
		checkDue(t, "any week", b, film, number, dueBy(b, b.Contracts[n], number))
	} else {
		checkDueError(t, "any week", b, film, number, api.ErrArg)
	}
	before := []api.Payment{payment(b.Contracts[0].Film, odd(rnd, 5))}
	switch {
	case !inRange:
		checkTotalError(t, "any week", b, number, api.ErrArg)
		checkPayError(t, "any week", b, number, before, api.ErrArg)
	case before[0].Cents < 0 || before[0].Cents > 1000000000:
		checkPayError(t, "any payment", b, number, before, api.ErrPaid)
	default:
		pay, over := payBy(b, number, before)
		checkPay(t, "any payment", b, number, before, pay, over)
		checkTotal(t, "any week", b, number, totalBy(b, number))
	}
}
