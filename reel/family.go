package reel

import (
	"math/bits"

	"bijou/api"
)

// family is a set of sets of feet: bit s%64 of the word s/64 stands for the set s. So a foot is added to all sets of a word at once.
type family []uint64

// wordFeet is how many feet the bits of one word tell apart.
const wordFeet = 6

// withFoot has, for each of the first feet, the bits of a word whose sets have it.
var withFoot = [wordFeet]uint64{
	0xaaaaaaaaaaaaaaaa,
	0xcccccccccccccccc,
	0xf0f0f0f0f0f0f0f0,
	0xff00ff00ff00ff00,
	0xffff0000ffff0000,
	0xffffffff00000000,
}

// newFamily returns a family with room for all sets of feet of a reel of that length, and with none in it.
func newFamily(length int) family { return make(family, 1<<max(length-wordFeet, 0)) }

// join puts all sets of another family in.
func (f family) join(other family) {
	for i := range f {
		f[i] |= other[i]
	}
}

// add puts a foot in all sets.
func (f family) add(foot int) {
	if foot < wordFeet {
		for i, w := range f {
			f[i] = (w | w<<(1<<foot)) & withFoot[foot]
		}
		return
	}
	step := 1 << (foot - wordFeet)
	for i := range f {
		if i&step != 0 {
			f[i] |= f[i-step]
			f[i-step] = 0
		}
	}
}

// torn returns all sets that can be gone if one more tear took a block out.
func (f family) torn(m api.Mark) family {
	all := make(family, len(f))
	if m.Count.Low == 0 {
		all.join(f)
	}
	now := make(family, len(f))
	for first := m.From; first <= m.To; first++ {
		copy(now, f)
		last := min(m.To, first+m.Count.High-1)
		for foot := first; foot <= last; foot++ {
			now.add(foot)
			if foot-first+1 >= m.Count.Low {
				all.join(now)
			}
		}
	}
	return all
}

// sets yields each set of the family.
func (f family) sets(yield func(feet) bool) {
	for i, w := range f {
		for w != 0 {
			if !yield(feet(i*64 + bits.TrailingZeros64(w))) {
				return
			}
			w &= w - 1
		}
	}
}
