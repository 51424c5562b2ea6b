package alarm_test

import (
	"math/rand"
	"testing"

	"bijou/alarm"
	"bijou/api"
	"bijou/seats"
	"bijou/turn"
)

// randomCalls ask for seats of a hall, and pay or drop some of them.
func randomCalls(rnd *rand.Rand) []api.Call {
	var l []api.Call
	for id := range rnd.Intn(api.MaxCalls + 1) {
		c := api.Call{Id: id, At: rnd.Intn(50), Kind: 1 + rnd.Intn(3), Order: rnd.Intn(15)}
		if rnd.Intn(2) == 0 {
			c.Kind = api.AskSeats
		}
		if c.Kind == api.AskSeats {
			c.Size = 1 + rnd.Intn(5)
		}
		l = append(l, c)
	}
	return l
}

// takenSeats returns how many seats of a hall are not free after a minute.
func takenSeats(t *testing.T, h api.Hall, l []api.Call, minute int) int {
	t.Helper()
	rows, e := seats.Map(h, l, minute)
	if e != api.OK {
		t.Fatalf("Map of %v and %v: %d", h, l, e)
	}
	taken := 0
	for _, row := range rows {
		for _, order := range row {
			if order != -1 {
				taken++
			}
		}
	}
	return taken
}

// P0.6 (the full house): if a house is empty in time when all seats are taken, it is so with whatever tills have sold.
func TestFullHouse(t *testing.T) {
	inTime, sooner := 0, 0
	eachHouse(106, 600, size{4, 0, 10, 6, 3}, func(rnd *rand.Rand, h api.Building) {
		halls := make([]api.Hall, len(h.People))
		for room := range halls {
			for range 1 + rnd.Intn(4) {
				halls[room].Rows = append(halls[room].Rows, 1+rnd.Intn(8))
			}
			halls[room].Hold = 1 + rnd.Intn(20)
			h.People[room] = sum(halls[room].Rows)
		}
		full := emptyOf(t, h)
		minute := rnd.Intn(60)
		sold := with(h, func(h *api.Building) {
			for room := range h.People {
				h.People[room] = takenSeats(t, halls[room], randomCalls(rnd), minute)
			}
		})
		switch empty := emptyOf(t, sold); {
		case empty > full:
			t.Errorf("%v is empty after %d minutes, but %v after %d", h, full, sold, empty)
		case empty < full:
			sooner++
		}
		if full <= api.MaxMinutes {
			inTime++
			checkMost(t, "sold", sold, full, sum(sold.People))
		}
	})
	if min(inTime, sooner) < 100 {
		t.Errorf("%d houses were empty in time, %d sooner with what was sold", inTime, sooner)
	}
}

// P0.7 (the door): a crowd leaves its screen in as many minutes as a room with one passage as wide takes to be empty.
func TestDoor(t *testing.T) {
	for width := 1; width <= api.MaxWidth; width++ {
		for people := range min(api.MaxSouls, api.MaxMinutes*width) + 1 {
			h := api.House{Teams: 1, Doors: api.Span{Low: width, High: width}, Clean: api.Span{Low: 1, High: 1}}
			times, e := turn.Times(h, []api.Slot{{Begin: 200, Runs: api.Span{Low: 90, High: 90}, Crowd: people}})
			if e != api.OK {
				t.Fatalf("Times of %v: %d", h, e)
			}
			checkEmpty(t, "one door", hall(people, width, 1), times[0].Empty.Low-times[0].Start.Low-90)
			checkEmpty(t, "one door", hall(people, width, 1), times[0].Empty.High-times[0].Start.High-90)
		}
	}
}

// P0.7 (the door): also if the doors are known within bounds only.
func TestDoorWithinBounds(t *testing.T) {
	rnd := rand.New(rand.NewSource(107))
	for range 300 {
		low := 2 + rnd.Intn(api.MaxWidth-1)
		doors := api.Span{Low: low, High: low + rnd.Intn(api.MaxWidth-low+1)}
		people := rnd.Intn(api.MaxSouls + 1)
		h := api.House{Teams: 1, Early: 30, Doors: doors, Clean: api.Span{Low: 1, High: 9}}
		times, e := turn.Times(h, []api.Slot{{Begin: 200, Runs: api.Span{Low: 90, High: 120}, Crowd: people}})
		fast, f := alarm.Empty(hall(people, doors.High, 1))
		slow, g := alarm.Empty(hall(people, doors.Low, 1))
		if e != api.OK || f != api.OK || g != api.OK {
			t.Fatalf("%v and %d people: errors %d, %d and %d", h, people, e, f, g)
		}
		if empty := times[0].Empty; empty.Low != times[0].Start.Low+90+fast || empty.High != times[0].Start.High+120+slow {
			t.Errorf("a crowd of %d leaves in %v through %v, but its room is empty after %d to %d minutes", people, times[0], doors, fast, slow)
		}
	}
}
