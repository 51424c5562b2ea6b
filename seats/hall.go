package seats

import (
	"cmp"
	"slices"

	"bijou/api"
)

// free stands for the order of a seat that no order has.
const free = -1

// nowhere stands for the row and the seat of an order that has no seats.
const nowhere = -1

// hall is a hall at work: the order that has each seat, all orders that asked, and those that paid in vain, as often as they did.
type hall struct {
	api.Hall
	seats  [][]int
	orders map[int]*order
	vain   []int
}

// order is the state of an order, and the minute at which it asked.
type order struct {
	api.Place
	asked int
}

// listen returns a hall after a minute.
func listen(h api.Hall, l []api.Call, minute int) (hall, api.Errno) {
	if e := Check(h, l); e != api.OK {
		return hall{}, e
	}
	if !isMinute(minute) {
		return hall{}, api.ErrArg
	}
	w := hall{Hall: h, orders: map[int]*order{}}
	for _, size := range w.Rows {
		w.seats = append(w.seats, slices.Repeat([]int{free}, size))
	}
	for _, c := range inOrder(l) {
		if c.At <= minute {
			w.hear(c)
		}
	}
	w.lapse(minute)
	return w, api.OK
}

// inOrder returns equal calls once, in the order in which they are heard.
func inOrder(l []api.Call) []api.Call {
	l = slices.Clone(l)
	slices.SortFunc(l, func(a, b api.Call) int {
		return cmp.Or(cmp.Compare(a.At, b.At), cmp.Compare(a.Id, b.Id))
	})
	return slices.Compact(l)
}

func (w *hall) hear(c api.Call) {
	// Nothing asks for seats between two calls, so it is early enough if orders lapse just before the later one.
	w.lapse(c.At)
	switch c.Kind {
	case api.AskSeats:
		w.ask(c)
	case api.PaySeats:
		w.pay(c.Order)
	case api.DropSeats:
		w.drop(c.Order)
	}
}

// lapse takes their seats from the orders that are held for too long at the beginning of a minute.
func (w *hall) lapse(minute int) {
	for _, o := range w.orders {
		if o.State == api.Held && o.asked+w.Hold <= minute {
			w.leave(o, api.Lapsed)
		}
	}
}

func (w *hall) ask(c api.Call) {
	if _, ok := w.orders[c.Order]; ok {
		return
	}
	o := &order{api.Place{State: api.Refused, Row: nowhere, Seat: nowhere, Size: c.Size}, c.At}
	w.orders[c.Order] = o
	if row, seat, ok := w.best(c.Size); ok {
		o.State, o.Row, o.Seat = api.Held, row, seat
		w.give(o.Place, c.Order)
	}
}

func (w *hall) pay(n int) {
	o, ok := w.orders[n]
	if !ok || o.State != api.Held {
		w.vain = append(w.vain, n)
		return
	}
	o.State = api.Sold
}

func (w *hall) drop(n int) {
	if o, ok := w.orders[n]; ok && (o.State == api.Held || o.State == api.Sold) {
		w.leave(o, api.Dropped)
	}
}

// leave takes its seats from an order, which has a new state from now on.
func (w *hall) leave(o *order, state int) {
	w.give(o.Place, free)
	o.State, o.Row, o.Seat = state, nowhere, nowhere
}

// give gives the seats of a place to an order, or makes them free.
func (w *hall) give(p api.Place, order int) {
	row := w.seats[p.Row]
	for n := range p.Size {
		row[p.Seat+n] = order
	}
}

// state returns the state of an order, also of one that has not asked.
func (w *hall) state(n int) api.Place {
	if o, ok := w.orders[n]; ok {
		return o.Place
	}
	return api.Place{State: api.Unheard, Row: nowhere, Seat: nowhere}
}
