package reel_test

import (
	"math/rand"
	"slices"

	"bijou/api"
	"bijou/reel"
)

func span(low, high int) api.Span { return api.Span{Low: low, High: high} }

func torn(from, to, low, high int) api.Mark {
	return api.Mark{Kind: api.Torn, From: from, To: to, Count: span(low, high)}
}

func seen(from, to int) api.Mark { return api.Mark{Kind: api.Seen, From: from, To: to} }

func gone(from, to int) api.Mark { return api.Mark{Kind: api.Gone, From: from, To: to} }

func counted(low, high int) api.Mark { return api.Mark{Kind: api.Counted, Count: span(low, high)} }

func joined(low, high int) api.Mark { return api.Mark{Kind: api.Joined, Count: span(low, high)} }

func newReel(length int, marks ...api.Mark) api.Reel { return api.Reel{Feet: length, Marks: marks} }

// exampleR, exampleS and exampleT are the reels of the chapter's examples.
func exampleR() api.Reel { return newReel(8, torn(2, 4, 1, 2), torn(6, 7, 1, 1), seen(2, 2)) }
func exampleS() api.Reel { return with(exampleR(), joined(2, 2)) }
func exampleT() api.Reel { return with(exampleR(), gone(0, 1)) }

func with(r api.Reel, more ...api.Mark) api.Reel {
	return api.Reel{Feet: r.Feet, Marks: append(slices.Clone(r.Marks), more...)}
}

func without(r api.Reel, mark int) api.Reel {
	return api.Reel{Feet: r.Feet, Marks: slices.Delete(slices.Clone(r.Marks), mark, mark+1)}
}

// The tests know a set of feet as a string with a letter for each foot: x where it is there.

func setOf(length int, l []int) string {
	b := slices.Repeat([]byte{'-'}, length)
	for _, n := range l {
		b[n] = 'x'
	}
	return string(b)
}

func cut(there string, first, size int) string {
	b := []byte(there)
	for n := first; n < first+size; n++ {
		b[n] = '-'
	}
	return string(b)
}

func number(there string) int {
	n := 0
	for _, c := range there {
		if c == 'x' {
			n++
		}
	}
	return n
}

func spliceNumber(there string) int {
	n, last := 0, -1
	for i, c := range there {
		if c != 'x' {
			continue
		}
		if last >= 0 && i-last > 1 {
			n++
		}
		last = i
	}
	return n
}

func longestRow(there string) int {
	most, now := 0, 0
	for _, c := range there {
		if c == 'x' {
			now++
		} else {
			now = 0
		}
		most = max(most, now)
	}
	return most
}

func within(s api.Span, n int) bool { return s.Low <= n && n <= s.High }

func inside(s, outer api.Span) bool { return within(outer, s.Low) && within(outer, s.High) }

// isTrue tells whether a mark that is no tear is true of what is there.
func isTrue(m api.Mark, there string) bool {
	switch m.Kind {
	case api.Seen:
		return number(there[m.From:m.To+1]) == m.To+1-m.From
	case api.Gone:
		return number(there[m.From:m.To+1]) <= m.To-m.From
	case api.Counted:
		return within(m.Count, number(there))
	}
	return within(m.Count, spliceNumber(there))
}

// allTruths tries every block for every tear.
func allTruths(r api.Reel) []string {
	now := map[string]bool{setOf(r.Feet, upTo(r.Feet)): true}
	for _, m := range r.Marks {
		if m.Kind != api.Torn {
			continue
		}
		next := map[string]bool{}
		for there := range now {
			for size := m.Count.Low; size <= m.Count.High; size++ {
				if size == 0 {
					next[there] = true
					continue
				}
				for first := m.From; first+size-1 <= m.To; first++ {
					next[cut(there, first, size)] = true
				}
			}
		}
		now = next
	}
	var l []string
	for there := range now {
		if !slices.ContainsFunc(r.Marks, func(m api.Mark) bool { return m.Kind != api.Torn && !isTrue(m, there) }) {
			l = append(l, there)
		}
	}
	slices.Sort(l)
	return l
}

// fewestByTrying drops all choices of marks.
func fewestByTrying(r api.Reel) int {
	least := len(r.Marks)
	for choice := range 1 << len(r.Marks) {
		kept := api.Reel{Feet: r.Feet}
		for i, m := range r.Marks {
			if choice>>i&1 == 1 {
				kept.Marks = append(kept.Marks, m)
			}
		}
		if dropped := len(r.Marks) - len(kept.Marks); dropped < least && len(allTruths(kept)) > 0 {
			least = dropped
		}
	}
	return least
}

// spanOf is the span of a count of the truths, of which there is at least one.
func spanOf(l []string, count func(string) int) api.Span {
	s := span(count(l[0]), count(l[0]))
	for _, there := range l {
		s = span(min(s.Low, count(there)), max(s.High, count(there)))
	}
	return s
}

func upTo(n int) []int {
	var l []int
	for i := range n {
		l = append(l, i)
	}
	return l
}

func randomSpan(rnd *rand.Rand, most int) api.Span {
	a, b := rnd.Intn(most+1), rnd.Intn(most+1)
	return span(min(a, b), max(a, b))
}

func randomTear(rnd *rand.Rand, length int) api.Mark {
	part := randomSpan(rnd, length-1)
	return api.Mark{Kind: api.Torn, From: part.Low, To: part.High, Count: randomSpan(rnd, min(api.MaxFeet, part.High-part.Low+2))}
}

func randomClaim(rnd *rand.Rand, length int) api.Mark {
	part := randomSpan(rnd, length-1)
	switch rnd.Intn(4) {
	case 0:
		return seen(part.Low, min(part.High, part.Low+2))
	case 1:
		return gone(part.Low, part.High)
	case 2:
		return api.Mark{Kind: api.Counted, Count: randomSpan(rnd, length)}
	}
	return api.Mark{Kind: api.Joined, Count: randomSpan(rnd, 3)}
}

// randomReel has some tears and other marks, in any order.
func randomReel(rnd *rand.Rand, length, tears, claims int) api.Reel {
	r := api.Reel{Feet: length}
	for range tears {
		r.Marks = append(r.Marks, randomTear(rnd, length))
	}
	for range claims {
		r.Marks = append(r.Marks, randomClaim(rnd, length))
	}
	rnd.Shuffle(len(r.Marks), func(i, j int) { r.Marks[i], r.Marks[j] = r.Marks[j], r.Marks[i] })
	return r
}

func clone(r api.Reel) api.Reel {
	return api.Reel{Feet: r.Feet, Marks: slices.Clone(r.Marks)}
}

func same(a, b api.Reel) bool { return a.Feet == b.Feet && slices.Equal(a.Marks, b.Marks) }

// spans are all spans that can be asked of a reel, in a fixed order, and the errors that came with them.
func spans(r api.Reel) (l []api.Span, errors []api.Errno) {
	add := func(s api.Span, e api.Errno) { l, errors = append(l, s), append(errors, e) }
	add(reel.Left(r))
	add(reel.Longest(r))
	for from := range r.Feet {
		for to := from; to < r.Feet; to++ {
			add(reel.Whole(r, from, to))
		}
	}
	add(reel.Splices(r))
	return l, errors
}
