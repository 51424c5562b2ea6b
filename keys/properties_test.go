package keys_test

import (
	"math/rand"
	"slices"
	"testing"

	"bijou/api"
	"bijou/keys"
)

// P2.9 (any order): the order of all in a library, and what comes twice, change no answer.
func TestAnyOrder(t *testing.T) {
	rnd := rand.New(rand.NewSource(9))
	for range 200 {
		base := randomBase(rnd)
		l := randomLibrary(rnd, base, rnd.Intn(8))
		other := shuffle(rnd, l)
		eachPair(l, func(c api.Comp, s api.Server) {
			compareAnswers(t, l, other, c.Id, s.Id, times(base))
		})
		for _, s := range l.Screens {
			for _, from := range times(base) {
				want := api.Comp{Film: rnd.Intn(2), Tongue: -1, Subs: -1}
				a, _ := keys.Find(l, want, s.Id, from)
				if b, e := keys.Find(other, want, s.Id, from); !slices.Equal(a, b) || e != api.OK {
					t.Errorf("Find of %v and %v: %v, and %v, %d", l, other, a, b, e)
				}
			}
		}
	}
}

// compareAnswers tells whether two libraries answer the same.
func compareAnswers(t *testing.T, a, b api.Library, comp, screen int, minutes []int) {
	t.Helper()
	missing, e1 := keys.Missing(a, comp, screen)
	others, e2 := keys.Missing(b, comp, screen)
	if !slices.Equal(missing, others) || e1 != e2 {
		t.Errorf("Missing of %d on %d of %v and %v: %v, %v", comp, screen, a, b, missing, others)
	}
	compareOpen(t, a, b, comp, screen)
	for _, from := range minutes {
		r1, w1, e1 := keys.Why(a, comp, screen, from)
		r2, w2, e2 := keys.Why(b, comp, screen, from)
		n1, e3 := keys.Next(a, comp, screen, from)
		n2, e4 := keys.Next(b, comp, screen, from)
		f1, e5 := keys.Fewest(a, comp, screen, from)
		f2, e6 := keys.Fewest(b, comp, screen, from)
		if r1 != r2 || w1 != w2 || e1 != e2 || n1 != n2 || e3 != e4 || f1 != f2 || e5 != e6 {
			t.Errorf("%d on %d from %d of %v and %v differ", comp, screen, from, a, b)
		}
	}
}

func compareOpen(t *testing.T, a, b api.Library, comp, screen int) {
	t.Helper()
	s1, e1 := keys.Open(a, comp, screen)
	s2, e2 := keys.Open(b, comp, screen)
	if !slices.Equal(s1, s2) || e1 != api.OK || e2 != api.OK {
		t.Errorf("Open of %d on %d of %v and %v: %v, %d, and %v, %d", comp, screen, a, b, s1, e1, s2, e2)
	}
}

// P2.9: Merge is the same, whichever keys and recalls come late.
func TestMergeInAnyOrder(t *testing.T) {
	rnd := rand.New(rand.NewSource(19))
	for range 300 {
		whole := randomLibrary(rnd, randomBase(rnd), rnd.Intn(10))
		start := with(whole, func(l *api.Library) { l.Keys, l.Recalled = nil, nil })
		atOnce, e := keys.Merge(start, whole.Keys, whole.Recalled)
		if e != api.OK {
			t.Fatalf("Merge of %v: %d", whole, e)
		}
		late, mixed := start, shuffle(rnd, whole)
		for len(mixed.Keys)+len(mixed.Recalled) > 0 {
			k, r := rnd.Intn(len(mixed.Keys)+1), rnd.Intn(len(mixed.Recalled)+1)
			late, e = keys.Merge(late, mixed.Keys[:k], mixed.Recalled[:r])
			if e != api.OK {
				t.Fatalf("Merge of %v late: %d", whole, e)
			}
			mixed.Keys, mixed.Recalled = mixed.Keys[k:], mixed.Recalled[r:]
		}
		if !sameLibrary(atOnce, late) {
			t.Errorf("Merge of %v is %v, but if some come late %v", whole, atOnce, late)
		}
		if again, e := keys.Merge(late, late.Keys, late.Recalled); e != api.OK || !sameLibrary(again, late) {
			t.Errorf("Merge of %v twice is %v, %d", late, again, e)
		}
		eachPair(whole, func(c api.Comp, s api.Server) { compareAnswers(t, whole, late, c.Id, s.Id, []int{0, 5, 12, 505, 9980}) })
	}
}

// P2.10 (each minute).
func TestEachMinute(t *testing.T) {
	rnd := rand.New(rand.NewSource(10))
	for range 200 {
		base := randomBase(rnd)
		l := randomLibrary(rnd, base, rnd.Intn(8))
		eachPair(l, func(c api.Comp, s api.Server) {
			missing, _ := keys.Missing(l, c.Id, s.Id)
			open, _ := keys.Open(l, c.Id, s.Id)
			for _, from := range times(base) {
				all := slices.ContainsFunc(open, func(x api.Span) bool { return within(x, from) && within(x, from+c.Minutes-1) })
				if canPlay(l, c.Id, s.Id, from) != (all && len(missing) == 0) {
					t.Errorf("%d on %d from %d of %v: missing %v, open %v", c.Id, s.Id, from, l, missing, open)
				}
				checkLack(t, l, c, s, from)
			}
		})
	}
}

// checkLack tells whether what Why names lacks.
func checkLack(t *testing.T, l api.Library, c api.Comp, s api.Server, from int) {
	t.Helper()
	reason, which, e := keys.Why(l, c.Id, s.Id, from)
	ok := e == api.OK
	open, _ := keys.Open(l, c.Id, s.Id)
	mine := func(k api.Key) bool { return k.Comp == c.Id && !slices.Contains(l.Recalled, k.Id) }
	switch reason {
	case api.NoLack:
		ok = ok && which == from+c.Minutes-1
	case api.NoFile:
		missing, _ := keys.Missing(l, c.Id, s.Id)
		ok = ok && len(missing) > 0 && which == missing[0]
	case api.NoKey:
		ok = ok && c.Locked && len(open) == 0 && which == -1 && !slices.ContainsFunc(l.Keys, mine)
	case api.Foreign:
		distrusts := func(k api.Key) bool { return mine(k) && !slices.Contains(k.Devices, which) }
		ok = ok && c.Locked && len(open) == 0 && slices.Contains(s.Devices, which) && slices.ContainsFunc(l.Keys, distrusts)
	case api.Shut:
		isOpen := func(m int) bool { return slices.ContainsFunc(open, func(x api.Span) bool { return within(x, m) }) }
		ok = ok && from <= which && which < from+c.Minutes && !isOpen(which)
		for m := from; m < which; m++ {
			ok = ok && isOpen(m)
		}
	default:
		ok = false
	}
	if !ok {
		t.Errorf("Why of %d on %d from %d of %v = %d, %d, %d", c.Id, s.Id, from, l, reason, which, e)
	}
}

// P2.11 (more keys).
func TestMoreKeys(t *testing.T) {
	rnd := rand.New(rand.NewSource(11))
	more, fewer := 0, 0
	for range 300 {
		base := randomBase(rnd)
		l := randomLibrary(rnd, base, rnd.Intn(7))
		key := withKey(l, randomKey(rnd, 50, base))
		recall := withRecall(l, rnd.Intn(10))
		eachPair(l, func(c api.Comp, s api.Server) {
			for _, from := range times(base) {
				can, withKey, withRecall := canPlay(l, c.Id, s.Id, from), canPlay(key, c.Id, s.Id, from), canPlay(recall, c.Id, s.Id, from)
				if can && !withKey {
					t.Errorf("%d on %d from %d can play with %v, not with %v", c.Id, s.Id, from, l.Keys, key.Keys)
				}
				if !can && withRecall {
					t.Errorf("%d on %d from %d of %v can play if %v are recalled", c.Id, s.Id, from, l, recall.Recalled)
				}
				if !can && withKey {
					more++
				}
				if can && !withRecall {
					fewer++
				}
			}
		})
	}
	if more < 50 || fewer < 50 {
		t.Errorf("keys made only %d times possible, recalls only %d times impossible, that a composition plays", more, fewer)
	}
}

// P2.12 (the first minute).
func TestFirstMinute(t *testing.T) {
	rnd := rand.New(rand.NewSource(12))
	later := 0
	for range 200 {
		base := randomBase(rnd)
		l := randomLibrary(rnd, base, rnd.Intn(8))
		eachPair(l, func(c api.Comp, s api.Server) {
			for _, from := range times(base) {
				next, e := keys.Next(l, c.Id, s.Id, from)
				end := next
				if e != api.OK {
					end = times(base)[len(times(base))-1] + 1
				} else if next < from || !canPlay(l, c.Id, s.Id, next) {
					t.Errorf("Next of %d on %d from %d of %v = %d, at which it cannot play", c.Id, s.Id, from, l, next)
				}
				for m := from; m < end; m++ {
					if canPlay(l, c.Id, s.Id, m) {
						t.Errorf("Next of %d on %d from %d of %v = %d, %d, but it can play from %d", c.Id, s.Id, from, l, next, e, m)
					}
				}
				if e == api.OK && next > from {
					later++
				}
			}
		})
	}
	if later < 100 {
		t.Errorf("only %d times a composition could play later", later)
	}
}

// P2.7 and P2.13 (the fewest keys).
func TestFewestKeys(t *testing.T) {
	rnd := rand.New(rand.NewSource(13))
	seen := map[int]int{}
	for range 150 {
		base := randomBase(rnd)
		l := randomLibrary(rnd, base, 3+rnd.Intn(4))
		for i := range l.Keys {
			l.Keys[i].Comp, l.Keys[i].Devices = l.Comps[0].Id, []int{0, 1, 2}
		}
		for i := range l.Comps {
			l.Comps[i].Minutes = 5 + rnd.Intn(20)
		}
		eachPair(l, func(c api.Comp, s api.Server) {
			from := base + rnd.Intn(12)
			if next, e := keys.Next(l, c.Id, s.Id, from); e == api.OK {
				from = next
			}
			n, e := keys.Fewest(l, c.Id, s.Id, from)
			if !canPlay(l, c.Id, s.Id, from) {
				if n != 0 || e != api.ErrNone {
					t.Errorf("Fewest of %d on %d from %d of %v = %d, %d, though it cannot play", c.Id, s.Id, from, l, n, e)
				}
				return
			}
			if want := fewestByTrying(l, c, s, from); n != want || e != api.OK {
				t.Errorf("Fewest of %d on %d from %d of %v = %d, %d, not %d", c.Id, s.Id, from, l, n, e, want)
			}
			checkKeptKeys(t, l, c, s, from, n)
			seen[n]++
		})
	}
	if seen[0] == 0 || seen[1] == 0 || seen[2] == 0 || seen[3] == 0 {
		t.Errorf("the compositions need too few keys: %v", seen)
	}
}

// checkKeptKeys tells whether a composition can play with some choice of so many keys, and with none of fewer ones.
func checkKeptKeys(t *testing.T, l api.Library, c api.Comp, s api.Server, from, n int) {
	t.Helper()
	enough := false
	for choice := range 1 << len(l.Keys) {
		kept := with(l, func(l *api.Library) { l.Keys = nil })
		for i, k := range l.Keys {
			if choice>>i&1 == 1 {
				kept.Keys = append(kept.Keys, k)
			}
		}
		can := canPlay(kept, c.Id, s.Id, from)
		enough = enough || can && len(kept.Keys) == n
		if can && len(kept.Keys) < n {
			t.Errorf("%d on %d from %d of %v can play with %v, fewer than %d", c.Id, s.Id, from, l, kept.Keys, n)
		}
	}
	if !enough {
		t.Errorf("%d on %d from %d of %v can play with no %d keys", c.Id, s.Id, from, l, n)
	}
}

// P2.14 (the repaired server).
func TestRepairedServer(t *testing.T) {
	rnd := rand.New(rand.NewSource(14))
	repairs := 0
	for range 300 {
		base := randomBase(rnd)
		l := randomLibrary(rnd, base, rnd.Intn(8))
		eachPair(l, func(c api.Comp, s api.Server) {
			missing, _ := keys.Missing(l, c.Id, s.Id)
			better := with(l, func(l *api.Library) { repair(l, s.Id, missing) })
			if left, e := keys.Missing(better, c.Id, s.Id); len(left) != 0 || e != api.OK {
				t.Errorf("Missing of %d on %d of %v = %v, %d after the repair", c.Id, s.Id, l, left, e)
			}
			eachPair(l, func(c api.Comp, s api.Server) { compareOpen(t, l, better, c.Id, s.Id) })
			repairs += len(missing)
			open, _ := keys.Open(l, c.Id, s.Id)
			for _, from := range times(base) {
				all := slices.ContainsFunc(open, func(x api.Span) bool { return within(x, from) && within(x, from+c.Minutes-1) })
				if canPlay(better, c.Id, s.Id, from) != all {
					t.Errorf("%d on %d from %d of %v: open %v", c.Id, s.Id, from, better, open)
				}
			}
		})
	}
	if repairs < 100 {
		t.Errorf("only %d files were loaded", repairs)
	}
}

// repair loads assets anew on a screen.
func repair(l *api.Library, screen int, missing []int) {
	for i := range l.Screens {
		s := &l.Screens[i]
		if s.Id != screen {
			continue
		}
		for _, a := range l.Assets {
			if slices.Contains(missing, a.Id) {
				s.Files = slices.DeleteFunc(s.Files, func(f api.Asset) bool { return f.Id == a.Id })
				s.Files = append(s.Files, a)
			}
		}
	}
}

// P2.15 (another device).
func TestAnotherDevice(t *testing.T) {
	rnd := rand.New(rand.NewSource(15))
	lost := 0
	for range 300 {
		l := randomLibrary(rnd, randomBase(rnd), rnd.Intn(8))
		eachPair(l, func(c api.Comp, s api.Server) {
			device := rnd.Intn(4)
			if slices.Contains(s.Devices, device) {
				return
			}
			more := with(l, func(l *api.Library) {
				i := slices.IndexFunc(l.Screens, func(x api.Server) bool { return x.Id == s.Id })
				l.Screens[i].Devices = append(l.Screens[i].Devices, device)
				slices.Sort(l.Screens[i].Devices)
			})
			before, _ := keys.Open(l, c.Id, s.Id)
			after, e := keys.Open(more, c.Id, s.Id)
			outside := func(x api.Span) bool {
				return !slices.ContainsFunc(before, func(y api.Span) bool { return within(y, x.Low) && within(y, x.High) })
			}
			if e != api.OK || slices.ContainsFunc(after, outside) {
				t.Errorf("Open of %d on %d of %v: %v, with the device %d %v, %d", c.Id, s.Id, l, before, device, after, e)
			}
			if !c.Locked && !slices.Equal(after, []api.Span{span(0, api.MaxClock)}) {
				t.Errorf("Open of %d on %d of %v = %v, though it is not locked", c.Id, s.Id, more, after)
			}
			if len(after) < len(before) {
				lost++
			}
		})
	}
	if lost < 20 {
		t.Errorf("only %d times minutes were lost by another device", lost)
	}
}
