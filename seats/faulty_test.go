package seats_test

import (
	"math"
	"slices"

	"bijou/api"
)

type fault struct {
	change func(q *question)
	e      api.Errno
}

type adder func(name string, e api.Errno, change func(q *question))

// faulty are changes to the hall and the calls of the examples, each with the first error that they then have.
func faulty() map[string]fault {
	all := map[string]fault{}
	add := func(name string, e api.Errno, change func(q *question)) { all[name] = fault{change, e} }
	for name, h := range faultyHalls() {
		add(name, api.ErrHall, func(q *question) { q.h = h })
	}
	addCalls(add)
	addKinds(add)
	addClashes(add)
	add("a wrong hall and a wrong call", api.ErrHall, func(q *question) { q.h.Hold, q.l[0].Id = 0, -1 })
	add("a wrong hall and calls that clash", api.ErrHall, func(q *question) { q.h.Rows[1], q.l[1].Id = 13, 1 })
	return all
}

func faultyHalls() map[string]api.Hall {
	return map[string]api.Hall{
		"nothing at all":   {},
		"no rows":          newHall(10),
		"empty rows":       newHall(10, []int{}...),
		"7 rows":           newHall(10, 5, 3, 1, 1, 1, 1, 1),
		"a row of 0":       newHall(10, 5, 0),
		"a first row of 0": newHall(10, 0, 5),
		"a row of -1":      newHall(10, -1, 5),
		"a row of 13":      newHall(10, 5, 13),
		"a huge row":       newHall(10, math.MaxInt, 3),
		"a last row of 13": newHall(10, 5, 3, 1, 1, 1, 13),
		"a hold of 0":      newHall(0, 5, 3),
		"a hold of -1":     newHall(-1, 5, 3),
		"a hold of 601":    newHall(601, 5, 3),
		"an endless hold":  newHall(math.MaxInt, 5, 3),
		"the least hold":   newHall(math.MinInt, 5, 3),
		"a row of MinInt":  newHall(10, 5, math.MinInt),
		"1000 rows":        newHall(10, slices.Repeat([]int{1}, 1000)...),
	}
}

func addCalls(add adder) {
	addCall := func(name string, change func(c *api.Call)) {
		add(name, api.ErrCall, func(q *question) { change(&q.l[1]) })
	}
	addCall("an Id -1", func(c *api.Call) { c.Id = -1 })
	addCall("an Id 100", func(c *api.Call) { c.Id = 100 })
	addCall("a huge Id", func(c *api.Call) { c.Id = math.MaxInt })
	addCall("a minute -1", func(c *api.Call) { c.At = -1 })
	addCall("a minute 10000", func(c *api.Call) { c.At = 10000 })
	addCall("the least minute", func(c *api.Call) { c.At = math.MinInt })
	addCall("an order -1", func(c *api.Call) { c.Order = -1 })
	addCall("an order 100", func(c *api.Call) { c.Order = 100 })
	addCall("a huge order", func(c *api.Call) { c.Order = math.MaxInt })
	addCall("a size 0", func(c *api.Call) { c.Size = 0 })
	addCall("a size -1", func(c *api.Call) { c.Size = -1 })
	addCall("a size 13", func(c *api.Call) { c.Size = 13 })
	addCall("a huge size", func(c *api.Call) { c.Size = math.MaxInt })
	add("a wrong last call", api.ErrCall, func(q *question) { q.l[4].Order = 100 })
	add("a wrong late call", api.ErrCall, func(q *question) { q.l = append(q.l, ask(9, 9999, 100, 1)) })
	add("41 calls", api.ErrCall, func(q *question) {
		for id := range 36 {
			q.l = append(q.l, drop(10+id, 50, 50))
		}
	})
	add("41 equal calls", api.ErrCall, func(q *question) { q.l = slices.Repeat([]api.Call{pay(1, 1, 1)}, 41) })
}

func addKinds(add adder) {
	addCall := func(name string, c api.Call) {
		add(name, api.ErrCall, func(q *question) { q.l = append(q.l, c) })
	}
	addCall("the kind 0", api.Call{Id: 9})
	addCall("the kind 0 with a size", api.Call{Id: 9, Size: 1})
	addCall("the kind 4", api.Call{Id: 9, Kind: 4})
	addCall("the kind 4 with a size", api.Call{Id: 9, Kind: 4, Size: 1})
	addCall("the kind -1", api.Call{Id: 9, Kind: -1})
	addCall("to pay for 1", api.Call{Id: 9, Kind: api.PaySeats, Size: 1})
	addCall("to pay for -1", api.Call{Id: 9, Kind: api.PaySeats, Size: -1})
	addCall("to drop 1", api.Call{Id: 9, Kind: api.DropSeats, Size: 1})
	addCall("to drop -1", api.Call{Id: 9, Kind: api.DropSeats, Size: -1})
}

func addClashes(add adder) {
	addCall := func(name string, c api.Call) {
		add(name, api.ErrCall, func(q *question) { q.l = append(q.l, c) })
	}
	addCall("the same call later", ask(1, 1, 1, 2))
	addCall("the same call for another order", ask(1, 0, 2, 2))
	addCall("the same call of another size", ask(1, 0, 1, 3))
	addCall("the same call of another kind", drop(3, 5, 1))
	addCall("another call with an Id that was", pay(2, 30, 7))
	add("two clashing late calls", api.ErrCall, func(q *question) { q.l = append(q.l, pay(9, 9998, 1), pay(9, 9999, 1)) })
	add("a call, an equal one, and one that clashes", api.ErrCall, func(q *question) { q.l = append(q.l, q.l[0], drop(1, 0, 1)) })
}

// sound are halls and calls without an error, most of them at the limits.
func sound() []question {
	one := func(change func(q *question)) question { return example().with(change) }
	return []question{
		example(), full(),
		one(func(q *question) { q.l = nil }),
		one(func(q *question) { q.l = []api.Call{} }),
		one(func(q *question) { q.h = newHall(1, 1) }),
		one(func(q *question) { q.h = newHall(600, 12, 12, 12, 12, 12, 12) }),
		one(func(q *question) { q.l = append(q.l, q.l...) }),
		one(func(q *question) {
			q.l = []api.Call{ask(0, 0, 0, 1), pay(99, 9999, 99), drop(98, 9999, 0), ask(97, 0, 99, 12)}
		}),
		one(func(q *question) { q.l = slices.Repeat([]api.Call{pay(1, 1, 1)}, 40) }),
		one(func(q *question) { q.l = append(q.l, ask(6, 0, 1, 2)) }),
		one(func(q *question) {
			q.l = nil
			for id := range 40 {
				q.l = append(q.l, drop(id, 50, 50))
			}
		}),
	}
}
