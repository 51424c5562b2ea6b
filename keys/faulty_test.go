package keys_test

import (
	"math"
	"slices"

	"bijou/api"
)

type fault struct {
	change func(l *api.Library)
	e      api.Errno
}

// faulty are changes to the library of the examples, each with the first error that it then has.
func faulty() map[string]fault {
	all := map[string]fault{}
	add := func(name string, e api.Errno, change func(l *api.Library)) { all[name] = fault{change, e} }
	addAssets(add)
	addComps(add)
	addScreens(add)
	for name, x := range faultyMessages() {
		add(name, x.e, func(l *api.Library) { l.Keys, l.Recalled = x.keys, x.recalled })
	}
	add("two clashing keys among others", api.ErrKey, func(l *api.Library) { l.Keys = append(l.Keys, newKey(2, 7, 240, 400, 4, 5)) })
	add("clashing keys and a wrong asset", api.ErrLibrary, func(l *api.Library) {
		l.Keys = append(l.Keys, newKey(2, 7, 240, 400, 4, 5))
		l.Assets[0].Sum = -1
	})
	return all
}

type adder func(name string, e api.Errno, change func(l *api.Library))

func addAssets(add adder) {
	add("an asset -1", api.ErrLibrary, func(l *api.Library) { l.Assets = append(l.Assets, api.Asset{Id: -1}) })
	add("an asset 100", api.ErrLibrary, func(l *api.Library) { l.Assets = append(l.Assets, api.Asset{Id: 100}) })
	add("a sum -1", api.ErrLibrary, func(l *api.Library) { l.Assets[0].Sum = -1 })
	add("a sum 1000", api.ErrLibrary, func(l *api.Library) { l.Assets[2].Sum = 1000 })
	add("a huge sum", api.ErrLibrary, func(l *api.Library) { l.Assets[2].Sum = math.MinInt })
	add("an asset twice", api.ErrLibrary, func(l *api.Library) { l.Assets = append(l.Assets, api.Asset{Id: 1, Sum: 99}) })
	add("two equal assets", api.ErrLibrary, func(l *api.Library) { l.Assets = append(l.Assets, l.Assets[0]) })
	add("13 assets", api.ErrLibrary, func(l *api.Library) {
		for i := range 10 {
			l.Assets = append(l.Assets, api.Asset{Id: 10 + i})
		}
	})
}

func addComps(add adder) {
	addComp := func(name string, change func(c *api.Comp)) {
		add(name, api.ErrLibrary, func(l *api.Library) { change(&l.Comps[2]) })
	}
	addComp("a composition -1", func(c *api.Comp) { c.Id = -1 })
	addComp("a composition 100", func(c *api.Comp) { c.Id = 100 })
	addComp("a composition twice", func(c *api.Comp) { c.Id = 8 })
	addComp("a film -1", func(c *api.Comp) { c.Film = -1 })
	addComp("a film 100", func(c *api.Comp) { c.Film = 100 })
	addComp("a tongue -1", func(c *api.Comp) { c.Tongue = -1 })
	addComp("a tongue 10", func(c *api.Comp) { c.Tongue = 10 })
	addComp("subtitles -1", func(c *api.Comp) { c.Subs = -1 })
	addComp("subtitles 10", func(c *api.Comp) { c.Subs = 10 })
	addComp("0 minutes", func(c *api.Comp) { c.Minutes = 0 })
	addComp("401 minutes", func(c *api.Comp) { c.Minutes = 401 })
	addComp("minutes below 0", func(c *api.Comp) { c.Minutes = math.MinInt })
	addComp("no assets", func(c *api.Comp) { c.Assets = nil })
	addComp("empty assets", func(c *api.Comp) { c.Assets = []int{} })
	addComp("assets that descend", func(c *api.Comp) { c.Assets = []int{2, 1} })
	addComp("an asset twice in a composition", func(c *api.Comp) { c.Assets = []int{1, 1} })
	addComp("a strange asset", func(c *api.Comp) { c.Assets = []int{1, 4} })
	addComp("a strange asset 0", func(c *api.Comp) { c.Assets = []int{0, 1} })
	addComp("an asset -1 in a composition", func(c *api.Comp) { c.Assets = []int{-1, 1} })
	add("9 compositions", api.ErrLibrary, func(l *api.Library) {
		for i := range 6 {
			l.Comps = append(l.Comps, api.Comp{Id: 20 + i, Minutes: 1, Assets: []int{1}})
		}
	})
}

func addScreens(add adder) {
	addScreen := func(name string, change func(s *api.Server)) {
		add(name, api.ErrLibrary, func(l *api.Library) { change(&l.Screens[1]) })
	}
	addScreen("a screen -1", func(s *api.Server) { s.Id = -1 })
	addScreen("a screen 100", func(s *api.Server) { s.Id = 100 })
	addScreen("a screen twice", func(s *api.Server) { s.Id = 1 })
	addScreen("no devices", func(s *api.Server) { s.Devices = nil })
	addScreen("7 devices", func(s *api.Server) { s.Devices = upFrom(0, 7) })
	addScreen("a device -1", func(s *api.Server) { s.Devices = []int{-1, 6} })
	addScreen("a device 100", func(s *api.Server) { s.Devices = []int{6, 100} })
	addScreen("devices that descend", func(s *api.Server) { s.Devices = []int{7, 6} })
	addScreen("a device twice", func(s *api.Server) { s.Devices = []int{6, 6} })
	addScreen("a file -1", func(s *api.Server) { s.Files[0].Id = -1 })
	addScreen("a file 100", func(s *api.Server) { s.Files[0].Id = 100 })
	addScreen("a file of the sum -1", func(s *api.Server) { s.Files[0].Sum = -1 })
	addScreen("a file of the sum 1000", func(s *api.Server) { s.Files[0].Sum = 1000 })
	addScreen("a file twice", func(s *api.Server) { s.Files[0].Id = 3 })
	addScreen("two equal files", func(s *api.Server) { s.Files[0] = s.Files[1] })
	addScreen("21 files", func(s *api.Server) {
		s.Files = nil
		for i := range 21 {
			s.Files = append(s.Files, api.Asset{Id: i})
		}
	})
	add("7 screens", api.ErrLibrary, func(l *api.Library) {
		for i := range 5 {
			l.Screens = append(l.Screens, api.Server{Id: 20 + i, Devices: []int{1}})
		}
	})
}

type messages struct {
	keys     []api.Key
	recalled []int
	e        api.Errno
}

// faultyMessages are keys and recalls that are wrong whatever else is in the library.
func faultyMessages() map[string]messages {
	bad := api.ErrLibrary
	k := window(50, 0, 9)
	l := func(keys ...api.Key) []api.Key { return keys }
	return map[string]messages{
		"a key -1":                          {l(newKey(-1, 7, 0, 1)), nil, bad},
		"a key 100":                         {l(k, newKey(100, 7, 0, 1)), nil, bad},
		"a key for -1":                      {l(newKey(1, -1, 0, 1)), nil, bad},
		"a key for 100":                     {l(newKey(1, 100, 0, 1)), nil, bad},
		"a key from -1":                     {l(newKey(1, 7, -1, 1)), nil, bad},
		"a key to 10000":                    {l(newKey(1, 7, 9999, 10000)), nil, bad},
		"a key of huge times":               {l(newKey(1, 7, math.MinInt, math.MaxInt)), nil, bad},
		"a key from 10000":                  {l(newKey(1, 7, 10000, 10001)), nil, bad},
		"a key from 5 to 4":                 {l(newKey(1, 7, 5, 4)), nil, bad},
		"a key from -2 to -1":               {l(newKey(1, 7, -2, -1)), nil, bad},
		"a key of a device -1":              {l(newKey(1, 7, 0, 1, -1, 2)), nil, bad},
		"a key of a device 100":             {l(newKey(1, 7, 0, 1, 2, 100)), nil, bad},
		"a key of devices that descend":     {l(newKey(1, 7, 0, 1, 3, 2)), nil, bad},
		"a key of a device twice":           {l(newKey(1, 7, 0, 1, 3, 3)), nil, bad},
		"a key of 13 devices":               {l(newKey(1, 7, 0, 1, upFrom(0, 13)...)), nil, bad},
		"21 equal keys":                     {slices.Repeat(l(k), 21), nil, bad},
		"a recall -1":                       {nil, []int{5, -1}, bad},
		"a recall 100":                      {nil, []int{100}, bad},
		"21 equal recalls":                  {nil, slices.Repeat([]int{5}, 21), bad},
		"keys that clash and a recall -1":   {l(k, window(50, 0, 8)), []int{-1}, bad},
		"keys that clash and a key -1":      {l(k, window(50, 0, 8), window(-1, 0, 8)), nil, bad},
		"keys of another composition":       {l(k, newKey(50, 2, 0, 9, 1, 2)), nil, api.ErrKey},
		"keys of another first minute":      {l(k, window(50, 1, 9)), nil, api.ErrKey},
		"keys of another last minute":       {l(k, window(50, 0, 8)), nil, api.ErrKey},
		"keys of other devices":             {l(k, newKey(50, 1, 0, 9, 1, 3)), nil, api.ErrKey},
		"keys of one device more":           {l(k, newKey(50, 1, 0, 9, 1, 2, 3)), nil, api.ErrKey},
		"keys of no device":                 {l(k, newKey(50, 1, 0, 9)), nil, api.ErrKey},
		"keys that clash, equal ones later": {l(k, window(51, 0, 9), window(51, 0, 8), k, k), nil, api.ErrKey},
		"keys that clash after equal ones":  {l(k, k, window(50, 1, 9)), nil, api.ErrKey},
		"keys that clash and are recalled":  {l(k, window(50, 1, 9)), []int{50}, api.ErrKey},
	}
}

// sound are libraries without an error, some of them at the limits.
func sound() []api.Library {
	return []api.Library{
		exampleL(), full(), {}, small(1), small(400, window(1, 0, 0), window(2, 9999, 9999), window(1, 0, 0)),
		small(2, api.Key{Id: 0, Comp: 99, Devices: nil}, api.Key{Id: 0, Comp: 99, Devices: []int{}}),
		small(2, newKey(0, 0, 3, 3, upFrom(0, 12)...)),
		{
			Assets:   []api.Asset{{Id: 0, Sum: 0}},
			Comps:    []api.Comp{{Id: 0, Minutes: 1, Assets: []int{0}}},
			Screens:  []api.Server{{Id: 0, Devices: []int{0}, Files: []api.Asset{{Id: 99, Sum: 0}}}, {Id: 1, Devices: []int{0}}},
			Recalled: []int{99, 0, 0, 99},
		},
		withRecall(small(3, slices.Repeat([]api.Key{window(9, 4, 8)}, 20)...), upFrom(0, 20)...),
	}
}
