package count_test

import (
	"slices"
	"strconv"

	"bijou/api"
)

type adder func(name string, change func(v *api.Evening))

// faulty are changes to the evening V of the examples, with each of which it is not valid.
func faulty() map[string]func(v *api.Evening) {
	all := map[string]func(v *api.Evening){}
	add := func(name string, change func(v *api.Evening)) {
		if _, ok := all[name]; ok {
			panic("two faults have the name " + name)
		}
		all[name] = change
	}
	addShows(add)
	addNumbers(add)
	addCounters(add)
	addRolls(add)
	return all
}

func addShows(add adder) {
	setShows := func(v *api.Evening, shows int) {
		v.Prices, v.Seats, v.Stubs = slices.Repeat([]int{1}, shows), make([]int, shows), make([]int, shows)
		for n := range v.Counters {
			v.Counters[n].Sold = make([]int, shows)
		}
	}
	for _, shows := range []int{0, 4, 5, 100000} {
		add(strconv.Itoa(shows)+" shows", func(v *api.Evening) { setShows(v, shows) })
	}
	for _, n := range []int{0, 1, 3, 4, 100000} {
		name := " for " + strconv.Itoa(n) + " of 2 shows"
		add("Prices"+name, func(v *api.Evening) { v.Prices = slices.Repeat([]int{5}, n) })
		add("Seats"+name, func(v *api.Evening) { v.Seats = slices.Repeat([]int{5}, n) })
		add("Stubs"+name, func(v *api.Evening) { v.Stubs = slices.Repeat([]int{5}, n) })
		for number := range exampleV().Counters {
			add("Sold"+name+" at the till "+strconv.Itoa(number), func(v *api.Evening) { v.Counters[number].Sold = slices.Repeat([]int{5}, n) })
		}
	}
	add("no numbers at all", func(v *api.Evening) { *v = api.Evening{} })
	add("a till without numbers", func(v *api.Evening) { v.Counters[1] = api.Counter{} })
}

func addNumbers(add adder) {
	addList := func(name string, first, last int, field func(v *api.Evening) []int) {
		for how, n := range outside(first, last) {
			for show := range exampleV().Prices {
				add(name+" "+how+" of the show "+strconv.Itoa(show), func(v *api.Evening) { field(v)[show] = n })
			}
		}
	}
	addList("Prices", 1, 50, func(v *api.Evening) []int { return v.Prices })
	addList("Seats", 0, 80, func(v *api.Evening) []int { return v.Seats })
	addList("Stubs", 0, 80, func(v *api.Evening) []int { return v.Stubs })
	for till := range exampleV().Counters {
		addList("Sold at the till "+strconv.Itoa(till), 0, 20, func(v *api.Evening) []int { return v.Counters[till].Sold })
	}
}

func addCounters(add adder) {
	addNumber := func(name string, last int, field func(c *api.Counter) *int) {
		for how, n := range outside(0, last) {
			for number := range exampleV().Counters {
				add(name+" "+how+" at the till "+strconv.Itoa(number), func(v *api.Evening) { *field(&v.Counters[number]) = n })
			}
		}
	}
	addNumber("First", 9999, func(c *api.Counter) *int { return &c.First })
	addNumber("Last", 9999, func(c *api.Counter) *int { return &c.Last })
	addNumber("Void", 20, func(c *api.Counter) *int { return &c.Void })
	addNumber("Float", 9999, func(c *api.Counter) *int { return &c.Float })
	addNumber("Cash", 9999, func(c *api.Counter) *int { return &c.Cash })
	add("no tills", func(v *api.Evening) { v.Counters = nil })
	for _, n := range []int{5, 6, 100000} {
		add(strconv.Itoa(n)+" tills", func(v *api.Evening) { v.Counters = slices.Repeat(v.Counters[:1], n) })
	}
}

// addRolls adds rolls that are not from 0 to 20, or that have only numbers that cannot be.
func addRolls(add adder) {
	for number := range exampleV().Counters {
		addRoll := func(first, last, void int) {
			name := strconv.Itoa(first) + " to " + strconv.Itoa(last) + " less " + strconv.Itoa(void)
			add("from "+name+" at the till "+strconv.Itoa(number), func(v *api.Evening) {
				v.Counters[number].First, v.Counters[number].Last, v.Counters[number].Void = first, last, void
			})
		}
		addRoll(100, 121, 0)
		addRoll(100, 141, 20)
		addRoll(0, 9999, 20)
		addRoll(100, 99, 0)
		addRoll(100, 100, 1)
		addRoll(100, 119, 20)
		addRoll(9999, 0, 0)
		addRoll(-10, -5, 0)
		addRoll(9990, 10000, 0)
		addRoll(-1, 9, 0)
		addRoll(100, 120, 21)
		addRoll(100, 121, 21)
		addRoll(100, 130, 21)
		addRoll(100, 160, 50)
		addRoll(100, 105, -1)
	}
}
