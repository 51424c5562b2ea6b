package show_test

import (
	"math"
	"slices"

	"bijou/api"
)

type fault struct {
	change func(s *api.Show)
	e      api.Errno
}

type adder func(name string, e api.Errno, change func(s *api.Show))

// faulty are changes to the show of the examples, each with the first error that it then has.
func faulty() map[string]fault {
	all := map[string]fault{}
	add := func(name string, e api.Errno, change func(s *api.Show)) { all[name] = fault{change, e} }
	addParts(add)
	addBooths(add)
	addItems(add)
	addFilms(add)
	return all
}

// addParts adds libraries and reels that are wrong, also where something else is wrong too.
func addParts(add adder) {
	clash := func(s *api.Show) { s.Library.Keys = append(s.Library.Keys, newKey(1, 7, 25, 41, 1)) }
	add("keys that clash", api.ErrKey, clash)
	add("a composition of 0 minutes", api.ErrLibrary, func(s *api.Show) { s.Library.Comps[0].Minutes = 0 })
	add("a reel of 0 feet", api.ErrReel, func(s *api.Show) { s.Reels[1].Feet = 0 })
	add("a reel of 17 feet", api.ErrReel, func(s *api.Show) { s.Reels[2].Feet = 17 })
	add("a wrong mark", api.ErrMark, func(s *api.Show) { s.Reels[0].Marks[0].To = 8 })
	add("a wrong reel that no film has", api.ErrReel, func(s *api.Show) { s.Reels = append(s.Reels, api.Reel{}) })
	add("a wrong mark, then a wrong reel", api.ErrMark, func(s *api.Show) { s.Reels[0].Marks[0].Kind, s.Reels[1].Feet = 0, 0 })
	add("a wrong reel, then a wrong mark", api.ErrReel, func(s *api.Show) { s.Reels[0].Feet, s.Reels[2].Marks = 0, make([]api.Mark, 1) })
	add("a wrong library and a wrong reel", api.ErrKey, func(s *api.Show) {
		clash(s)
		s.Reels[0].Feet = 0
	})
	add("a wrong library and a wrong booth", api.ErrKey, func(s *api.Show) {
		clash(s)
		s.Booth.Towers = 3
	})
	add("a wrong reel and a wrong booth", api.ErrMark, func(s *api.Show) { s.Reels[0].Marks[0].Kind, s.Booth.Towers = 6, 3 })
	add("a wrong reel and a wrong item", api.ErrReel, func(s *api.Show) { s.Reels[2].Feet, s.Items[0].Kind = -1, 0 })
	add("7 reels", api.ErrShow, func(s *api.Show) { s.Reels = append(s.Reels, slices.Repeat([]api.Reel{newReel(1)}, 4)...) })
	add("7 reels, of which the last one is wrong", api.ErrReel, func(s *api.Show) { s.Reels = append(s.Reels, newReel(1), newReel(1), newReel(1), newReel(0)) })
	add("a reel without a truth and a wrong booth", api.ErrShow, func(s *api.Show) { s.Reels[0], s.Booth.Towers = wrongReel(), 3 })
}

func addBooths(add adder) {
	addBooth := func(name string, change func(b *api.Booth)) {
		add(name, api.ErrShow, func(s *api.Show) { change(&s.Booth) })
	}
	addBooth("a platter of -1", func(b *api.Booth) { b.Platter = -1 })
	addBooth("a platter of 65", func(b *api.Booth) { b.Platter = 65 })
	addBooth("a huge platter", func(b *api.Booth) { b.Platter = math.MaxInt })
	addBooth("-1 towers", func(b *api.Booth) { b.Towers = -1 })
	addBooth("3 towers", func(b *api.Booth) { b.Towers = 3 })
	addBooth("threading from -1", func(b *api.Booth) { b.Thread.Low = -1 })
	addBooth("threading to -1", func(b *api.Booth) { b.Thread = at(-1) })
	addBooth("threading to 31", func(b *api.Booth) { b.Thread.High = 31 })
	addBooth("threading from 3 to 2", func(b *api.Booth) { b.Thread = span(3, 2) })
	addBooth("threading from 31 to 31", func(b *api.Booth) { b.Thread = at(31) })
	addBooth("the screen -2", func(b *api.Booth) { b.Screen = -2 })
	addBooth("the screen 0", func(b *api.Booth) { b.Screen = 0 })
	addBooth("the screen 2", func(b *api.Booth) { b.Screen = 2 })
	addBooth("the screen of a composition", func(b *api.Booth) { b.Screen = 7 })
	add("nothing at all, but the screen 0", api.ErrShow, func(s *api.Show) { *s = api.Show{} })
	add("no screens", api.ErrShow, func(s *api.Show) { s.Library.Screens = nil })
}

func addItems(add adder) {
	addItem := func(name string, item api.Item) {
		add(name, api.ErrShow, func(s *api.Show) { s.Items[0] = item })
	}
	addItem("the kind 0", api.Item{})
	addItem("the kind 4", api.Item{Kind: 4})
	addItem("the kind -1", api.Item{Kind: -1})
	addItem("spots from -1", spots(-1, 4))
	addItem("spots to 61", spots(3, 61))
	addItem("spots from 4 to 3", spots(4, 3))
	addItem("spots to -1", spots(-1, -1))
	addItem("endless spots", spots(0, math.MaxInt))
	addItem("spots with a composition", api.Item{Kind: api.Spots, Length: span(3, 4), Comp: 7})
	addItem("spots with a composition -1", api.Item{Kind: api.Spots, Comp: -1})
	addItem("the composition 1", pack(1))
	addItem("the composition 0", pack(0))
	addItem("the composition -1", pack(-1))
	addItem("a package with a length", api.Item{Kind: api.Pack, Comp: 7, Length: span(0, 1)})
	add("spots with a reel", api.ErrShow, func(s *api.Show) { s.Items[0].Reels, s.Items[1] = []int{2}, film(0, 1) })
	add("a package with a reel", api.ErrShow, func(s *api.Show) { s.Items[2].Reels, s.Items[1] = []int{2}, film(0, 1) })
	add("7 items", api.ErrShow, func(s *api.Show) { s.Items = append(s.Items, slices.Repeat([]api.Item{spots(0, 0)}, 4)...) })
	add("a wrong last item", api.ErrShow, func(s *api.Show) { s.Items[2].Comp = 8 })
}

func addFilms(add adder) {
	addFilm := func(name string, item api.Item) {
		add(name, api.ErrShow, func(s *api.Show) { s.Items[1] = item })
	}
	addFilm("a film without reels", film())
	addFilm("a film with empty reels", api.Item{Kind: api.Film, Reels: []int{}})
	addFilm("a film with the reel -1", film(-1))
	addFilm("a film with the reel 3", film(0, 1, 3))
	addFilm("a film with a reel twice", film(0, 1, 0))
	addFilm("a film with a reel twice in a row", film(0, 0))
	addFilm("a film with a length", api.Item{Kind: api.Film, Reels: []int{0}, Length: span(0, 1)})
	addFilm("a film with a length below 0", api.Item{Kind: api.Film, Reels: []int{0}, Length: span(-1, 0)})
	addFilm("a film with a composition", api.Item{Kind: api.Film, Reels: []int{0}, Comp: 7})
	add("a reel in two films", api.ErrShow, func(s *api.Show) { s.Items[0] = film(2) })
	add("a film of 7 reels", api.ErrShow, func(s *api.Show) { s.Items[1] = film(0, 1, 2, 3, 4, 5, 0) })
	add("a film and no reels", api.ErrShow, func(s *api.Show) { s.Reels = nil })
}

// sound are shows without an error, most of them at the limits.
func sound() []api.Show {
	one := func(change func(s *api.Show)) api.Show { return with(exampleS(), change) }
	return []api.Show{
		noItems(), exampleS(), exampleT(), exampleP(), full(),
		one(func(s *api.Show) { s.Booth.Screen = -1 }),
		one(func(s *api.Show) { s.Booth.Towers = 0 }),
		one(func(s *api.Show) { s.Booth.Thread = at(0) }),
		one(func(s *api.Show) { s.Booth.Thread = at(api.MaxThread) }),
		one(func(s *api.Show) { s.Items = nil }),
		one(func(s *api.Show) { s.Items[0].Reels, s.Items[2].Reels = []int{}, []int{} }),
		one(func(s *api.Show) { s.Items[0] = pack(7) }),
		one(func(s *api.Show) { s.Items[0], s.Items[1] = film(1), film(2, 0) }),
		one(func(s *api.Show) { s.Reels[1] = wrongReel() }),
		one(func(s *api.Show) {
			s.Library.Comps = append(s.Library.Comps, api.Comp{Id: 0, Minutes: 400, Assets: []int{1}})
			s.Library.Screens[0].Id, s.Booth.Screen = 0, 0
			s.Items[2].Comp = 0
		}),
	}
}
