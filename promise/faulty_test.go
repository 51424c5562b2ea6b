package promise_test

import (
	"slices"
	"strconv"

	"bijou/api"
)

type adder func(name string, change func(c *api.Campaign))

// faulty are changes to the campaign C of the examples, with each of which it is not valid.
func faulty() map[string]func(c *api.Campaign) {
	all := map[string]func(c *api.Campaign){}
	add := func(name string, change func(c *api.Campaign)) {
		if _, ok := all[name]; ok {
			panic("two faults have the name " + name)
		}
		all[name] = change
	}
	addShowings(add)
	addPromises(add)
	addSpans(add)
	addSpots(add)
	return all
}

func addShowings(add adder) {
	addNumber := func(name string, last int, field func(s *api.Showing) *int) {
		for how, n := range outside(0, last) {
			for number := range exampleC().Showings {
				add(name+" "+how+" of the showing "+strconv.Itoa(number), func(c *api.Campaign) { *field(&c.Showings[number]) = n })
			}
		}
	}
	addNumber("Day", 99, func(s *api.Showing) *int { return &s.Day })
	addNumber("Kind", 9, func(s *api.Showing) *int { return &s.Kind })
	addNumber("Room", 6, func(s *api.Showing) *int { return &s.Room })
	add("9 showings", func(c *api.Campaign) { c.Showings = slices.Repeat(c.Showings, 3) })
	add("9 equal showings", func(c *api.Campaign) { c.Showings = make([]api.Showing, 9) })
	add("100000 showings", func(c *api.Campaign) { c.Showings = make([]api.Showing, 100000) })
}

func addPromises(add adder) {
	addNumber := func(name string, last int, field func(p *api.Promise) *int) {
		for how, n := range outside(0, last) {
			for number := range exampleC().Promises {
				add(name+" "+how+" of the promise "+strconv.Itoa(number), func(c *api.Campaign) { *field(&c.Promises[number]) = n })
			}
		}
	}
	addNumber("Spot", 99, func(p *api.Promise) *int { return &p.Spot })
	addNumber("Times", 8, func(p *api.Promise) *int { return &p.Times })
	addNumber("Kinds.Low", 9, func(p *api.Promise) *int { return &p.Kinds.Low })
	addNumber("Kinds.High", 9, func(p *api.Promise) *int { return &p.Kinds.High })
	addNumber("From", 99, func(p *api.Promise) *int { return &p.From })
	addNumber("To", 99, func(p *api.Promise) *int { return &p.To })
	add("7 promises", func(c *api.Campaign) {
		for n := range 4 {
			c.Promises = append(c.Promises, always(n, 1))
		}
	})
	add("100000 promises", func(c *api.Campaign) { c.Promises = make([]api.Promise, 100000) })
}

func addSpans(add adder) {
	add("Kinds.Low above High", func(c *api.Campaign) { c.Promises[1].Kinds = span(5, 4) })
	add("Kinds from 9 to 0", func(c *api.Campaign) { c.Promises[2].Kinds = span(9, 0) })
	add("Kinds from -1 to -1", func(c *api.Campaign) { c.Promises[0].Kinds = span(-1, -1) })
	add("Kinds from 10 to 10", func(c *api.Campaign) { c.Promises[0].Kinds = span(10, 10) })
	add("From above To", func(c *api.Campaign) { c.Promises[1].From, c.Promises[1].To = 3, 2 })
	add("From 99 to 0", func(c *api.Campaign) { c.Promises[2].From, c.Promises[2].To = 99, 0 })
	add("From -1 to -1", func(c *api.Campaign) { c.Promises[0].From, c.Promises[0].To = -1, -1 })
	add("From 100 to 100", func(c *api.Campaign) { c.Promises[0].From, c.Promises[0].To = 100, 100 })
}

func addSpots(add adder) {
	add("two spots the same", func(c *api.Campaign) { c.Promises[1].Spot = 40 })
	add("the first and the last spot the same", func(c *api.Campaign) { c.Promises[2].Spot = 40 })
	add("the last two spots the same", func(c *api.Campaign) { c.Promises[2].Spot = 41 })
	add("two promises the same", func(c *api.Campaign) { c.Promises[1] = c.Promises[0] })
	add("a wrong showing, and no promises", func(c *api.Campaign) { c.Showings[2].Room, c.Promises = 7, nil })
	add("a wrong promise, and no showings", func(c *api.Campaign) { c.Promises[2].Times, c.Showings = 9, nil })
}

// faultyPlans are none of the campaign C of the examples.
func faultyPlans() map[string][][]int {
	return map[string][][]int{
		"no showings":                       nil,
		"a showing less":                    {{0}, {1, 2}},
		"a showing more":                    {{0}, {1, 2}, {0}, {}},
		"100000 showings":                   make([][]int, 100000),
		"more than Room":                    {{0, 1}, {}, {}},
		"more than Room, the last":          {{}, {}, {0, 0}},
		"a promise twice":                   {{}, {1, 1}, {}},
		"descending":                        {{}, {2, 1}, {}},
		"a kind below Kinds":                {{2}, {}, {}},
		"a kind above Kinds":                {{}, {0}, {}},
		"the second one of a kind above":    {{}, {0, 1}, {}},
		"a day behind To":                   {{}, {}, {1}},
		"a promise -1":                      {{-1}, {}, {}},
		"a promise -1 and another one":      {{}, {-1, 1}, {}},
		"a promise 3":                       {{3}, {}, {}},
		"a promise and the promise 3":       {{}, {1, 3}, {}},
		"the least promise":                 {{-1 << 63}, {}, {}},
		"an endless promise":                {{1<<63 - 1}, {}, {}},
		"a promise that a byte would wrap":  {{256}, {}, {}},
		"a promise that 32 bits would wrap": {{1 << 32}, {}, {}},
		"100000 promises":                   {{}, make([]int, 100000), {}},
		"a fault at last":                   {{0}, {1, 2}, {2}},
		"a fault at first":                  {{2}, {1, 2}, {0}},
	}
}

// faultyReports are none about the campaign C of the examples.
func faultyReports() map[string][]api.Ran {
	all := map[string][]api.Ran{
		"31 reports":                  manyReports(31),
		"31 equal reports":            slices.Repeat(exampleL()[:1], 31),
		"100000 reports":              slices.Repeat(exampleL()[:1], 100000),
		"the same Id, another spot":   {ran(1, 0, 40), ran(1, 0, 41)},
		"the same Id, another show":   {ran(1, 0, 40), ran(1, 1, 40)},
		"the same Id around others":   {ran(1, 0, 40), ran(2, 1, 40), ran(3, 1, 42), ran(1, 0, 42)},
		"the same Id for equal ones":  {ran(1, 0, 40), ran(1, 0, 40), ran(1, 0, 41)},
		"the same Id, no promise":     {ran(1, 0, 7), ran(1, 1, 7)},
		"the same Id 0, another spot": {ran(0, 0, 40), ran(0, 0, 41)},
	}
	fields := map[string]struct {
		last  int
		field func(r *api.Ran) *int
	}{
		"Id":      {99, func(r *api.Ran) *int { return &r.Id }},
		"Spot":    {99, func(r *api.Ran) *int { return &r.Spot }},
		"Showing": {2, func(r *api.Ran) *int { return &r.Showing }},
	}
	for name, x := range fields {
		for how, n := range outside(0, x.last) {
			for number := range exampleL() {
				l := exampleL()
				*x.field(&l[number]) = n
				all[name+" "+how+" of the report "+strconv.Itoa(number)] = l
			}
		}
	}
	return all
}

// manyReports are so many different reports about the campaign C of the examples.
func manyReports(n int) []api.Ran {
	var l []api.Ran
	for id := range n {
		l = append(l, ran(id, id%3, 40+id/3))
	}
	return l
}
