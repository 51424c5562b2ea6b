package seats

import "cmp"

// filled is how far rows are filled one after the other: all before a row, and some seats of this one. If nothing fits, the row is the one behind the last.
type filled struct {
	row, seats int
}

// packed is how far a set of groups fills the rows at least, and which of them then comes last.
type packed struct {
	filled
	last int
}

// pack returns a row for each group, if there are rows for all of them.
func pack(rows, sizes []int) ([]int, bool) {
	// A set of groups is a number with a bit for each of them. The least filled rows are best for each group that is still to come, so no other way to seat the set matters.
	sets := make([]packed, 1<<len(sizes))
	for set := 1; set < len(sets); set++ {
		sets[set].row = len(rows)
		for n, size := range sizes {
			if set>>n&1 == 0 {
				continue
			}
			before := sets[set&^(1<<n)]
			if f := add(rows, before.filled, size); less(f, sets[set].filled) {
				sets[set] = packed{f, n}
			}
		}
	}
	if sets[len(sets)-1].row == len(rows) {
		return nil, false
	}
	return unpack(sets, len(sizes)), true
}

// unpack returns the row of each group, taking off the last one of all that are left again and again.
func unpack(sets []packed, groups int) []int {
	rows := make([]int, groups)
	for set := len(sets) - 1; set > 0; {
		p := sets[set]
		rows[p.last] = p.row
		set &^= 1 << p.last
	}
	return rows
}

// add returns how far rows are filled when a group comes behind all others.
func add(rows []int, f filled, size int) filled {
	if f.row < len(rows) && f.seats+size <= rows[f.row] {
		return filled{f.row, f.seats + size}
	}
	for row := f.row + 1; row < len(rows); row++ {
		if size <= rows[row] {
			return filled{row, size}
		}
	}
	return filled{row: len(rows)}
}

func less(a, b filled) bool {
	return cmp.Or(cmp.Compare(a.row, b.row), cmp.Compare(a.seats, b.seats)) < 0
}
