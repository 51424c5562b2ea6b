package seats_test

import (
	"slices"
	"strings"
	"testing"

	"bijou/api"
	"bijou/seats"
)

// hallOf is a hall in which from the minute 1 on just those seats are free that are points in the texts of its rows.
func hallOf(t *testing.T, rows ...string) question {
	t.Helper()
	q := question{h: newHall(api.MaxHold)}
	for _, text := range rows {
		q.h.Rows = append(q.h.Rows, len(text))
		for range text {
			q.l = append(q.l, ask(len(q.l), 0, len(q.l), 1))
		}
	}
	for row, orders := range after(q.h, q.l, 0).seats {
		for seat, order := range orders {
			if rows[row][seat] == '.' {
				q.l = append(q.l, drop(len(q.l), 1, order))
			}
		}
	}
	if e := seats.Check(q.h, q.l); e != api.OK {
		t.Fatalf("%v: Check = %d", rows, e)
	}
	return q
}

// P4.4: a group gets the first place that leaves no gap, otherwise the first one.
func TestBest(t *testing.T) {
	q := example()
	checkBest(t, "example", q, 1, 1, 0, 4, api.OK)
	checkBest(t, "example", q, 1, 2, 1, 0, api.OK)
	checkBest(t, "example", q, 1, 3, 1, 0, api.OK)
	checkBest(t, "example", q, 1, 4, 0, 0, api.ErrNone)
	checkBest(t, "example", q, 11, 1, 0, 2, api.OK)
	checkBest(t, "example", q, 11, 2, 0, 2, api.OK)
	checkBest(t, "example", q, 12, 2, 1, 0, api.OK)
	checkBest(t, "example", q, 12, 4, 0, 0, api.ErrNone)
	for _, x := range []struct {
		rows            []string
		size, row, seat int
		e               api.Errno
	}{
		{[]string{"...."}, 1, 0, 0, api.OK}, {[]string{"...."}, 2, 0, 0, api.OK}, {[]string{"...."}, 3, 0, 0, api.OK}, {[]string{"...."}, 4, 0, 0, api.OK}, {[]string{"...."}, 5, 0, 0, api.ErrNone}, {[]string{"...."}, 12, 0, 0, api.ErrNone},
		{[]string{"."}, 1, 0, 0, api.OK}, {[]string{"x"}, 1, 0, 0, api.ErrNone}, {[]string{"x", "x."}, 1, 1, 1, api.OK},
		{[]string{"...", ".."}, 2, 1, 0, api.OK}, {[]string{"...", "...."}, 2, 1, 0, api.OK}, {[]string{"...", "..."}, 2, 0, 0, api.OK}, {[]string{"....", ".."}, 2, 0, 0, api.OK}, {[]string{"..", "...."}, 2, 0, 0, api.OK},
		{[]string{".....", "..."}, 4, 0, 0, api.OK}, {[]string{"..", "..", "."}, 1, 2, 0, api.OK}, {[]string{"..", "..", ".."}, 1, 0, 0, api.OK}, {[]string{"..", "x..", "..."}, 1, 2, 0, api.OK},
		{[]string{"x..x...x"}, 2, 0, 1, api.OK}, {[]string{"x..x...x"}, 1, 0, 4, api.OK}, {[]string{"x..x...x"}, 3, 0, 4, api.OK}, {[]string{"x...x..x"}, 2, 0, 5, api.OK}, {[]string{"x...x.x"}, 2, 0, 1, api.OK},
		{[]string{".x.."}, 1, 0, 0, api.OK}, {[]string{"..x."}, 1, 0, 3, api.OK}, {[]string{"...x.."}, 2, 0, 4, api.OK}, {[]string{"..x.."}, 1, 0, 0, api.OK}, {[]string{"x.x.x.x"}, 2, 0, 0, api.ErrNone},
		{[]string{"x..", "..x"}, 1, 0, 1, api.OK}, {[]string{"...xx", "xx..x"}, 2, 1, 2, api.OK}, {[]string{"....xx", "..x"}, 3, 0, 0, api.OK}, {[]string{"..", "..", "..", "..", "..", "..."}, 1, 5, 0, api.OK},
		{[]string{".....x......"}, 4, 0, 6, api.OK}, {[]string{".....x......"}, 5, 0, 0, api.OK}, {[]string{".....x......"}, 6, 0, 6, api.OK}, {[]string{".....x......"}, 7, 0, 0, api.ErrNone},
	} {
		checkBest(t, strings.Join(x.rows, " "), hallOf(t, x.rows...), 1, x.size, x.row, x.seat, x.e)
	}
}

// Seats are taken alike, whether an order holds them or has paid.
func TestBestBesideSold(t *testing.T) {
	held := question{newHall(9, 6, 2), []api.Call{ask(0, 0, 0, 3)}}
	sold := held.with(func(q *question) { q.l = append(q.l, pay(1, 0, 0)) })
	for _, q := range []question{held, sold} {
		checkBest(t, "three seats are taken", q, 0, 2, 1, 0, api.OK)
		checkBest(t, "three seats are taken", q, 0, 3, 0, 3, api.OK)
	}
	checkBest(t, "nothing is held any more", held, 9, 6, 0, 0, api.OK)
	checkBest(t, "what is sold stays sold", sold, 9, 6, 0, 0, api.ErrNone)
}

// P4.5 and P4.6.
func TestLargestAndGroups(t *testing.T) {
	q := example()
	checkLargest(t, "example", q, 1, 3)
	checkLargest(t, "example", q, 11, 3)
	checkLargest(t, "example", q, 0, 3)
	checkGroups(t, "example", q, 11, 6, 2, 2, 0)
	checkGroups(t, "example", q, 0, 6, 2, 2, 0)
	checkGroups(t, "example", q, 1, 4, 1, 1, 0)
	for _, x := range []struct {
		rows    []string
		largest int
		groups  []int
	}{
		{[]string{"."}, 1, []int{1, 0}}, {[]string{"x"}, 0, []int{0, 0}}, {[]string{"xxx", "x"}, 0, []int{0, 0, 0}},
		{[]string{"......."}, 7, []int{7, 3, 2, 1, 1, 1, 1, 0}}, {[]string{"...", "..."}, 3, []int{6, 2, 2, 0}}, {[]string{"..", ".."}, 2, []int{4, 2, 0}},
		{[]string{"..x...x"}, 3, []int{5, 2, 1, 0}}, {[]string{"...x.."}, 3, []int{5, 2, 1, 0}}, {[]string{".x.x."}, 1, []int{3, 0}},
		{[]string{"x..", "..x"}, 2, []int{4, 2, 0, 0}}, {[]string{"x..x", "....", "x..."}, 4, []int{9, 4, 2, 1, 0}}, {[]string{"....x....x"}, 4, []int{8, 4, 2, 2, 0}},
		{[]string{"............"}, 12, []int{12, 6, 4, 3, 2, 2, 1, 1, 1, 1, 1, 1}}, {[]string{"..", "x", "...", "x.x", "....", "xx"}, 4, []int{10, 4, 2, 1, 0}},
	} {
		name := strings.Join(x.rows, " ")
		checkLargest(t, name, hallOf(t, x.rows...), 1, x.largest)
		checkGroups(t, name, hallOf(t, x.rows...), 1, x.groups...)
	}
	empty := question{newHall(1, slices.Repeat([]int{12}, 6)...), nil}
	checkLargest(t, "a great hall", empty, 9999, 12)
	checkGroups(t, "a great hall", empty, 9999, 72, 36, 24, 18, 12, 12, 6, 6, 6, 6, 6, 6)
}

func checkLargest(t *testing.T, name string, q question, minute, want int) {
	t.Helper()
	if n, e := seats.Largest(q.h, q.l, minute); n != want || e != api.OK {
		t.Errorf("%s: Largest after %d = %d, %d, not %d", name, minute, n, e, want)
	}
}

// checkGroups compares how many groups of 1, 2, and so on can be seated.
func checkGroups(t *testing.T, name string, q question, minute int, want ...int) {
	t.Helper()
	for i, groups := range want {
		if n, e := seats.Groups(q.h, q.l, minute, i+1); n != groups || e != api.OK {
			t.Errorf("%s: Groups of %d after %d = %d, %d, not %d", name, i+1, minute, n, e, groups)
		}
	}
}

// checkPacked tells whether rows are found for groups, and hold them.
func checkPacked(t *testing.T, h api.Hall, sizes ...int) {
	t.Helper()
	rows, e := seats.Pack(h, sizes)
	if e != api.OK || len(rows) != len(sizes) {
		t.Errorf("Pack of %v in %v = %v, %d", sizes, h.Rows, rows, e)
		return
	}
	left := slices.Clone(h.Rows)
	for i, row := range rows {
		if row < 0 || row >= len(left) || left[row] < sizes[i] {
			t.Errorf("Pack of %v in %v = %v", sizes, h.Rows, rows)
			return
		}
		left[row] -= sizes[i]
	}
}

// P4.8: groups for which there are rows. In some of them each group fits only if it does not get the first row, or the fullest one, that could take it.
func TestPack(t *testing.T) {
	great := slices.Repeat([]int{12}, 6)
	checkPacked(t, exampleH(), 3, 3, 2)
	for _, x := range []struct{ rows, sizes []int }{
		{[]int{1}, nil}, {[]int{1}, []int{}}, {[]int{1}, []int{1}}, {[]int{3, 5}, []int{5, 3}}, {[]int{3, 5}, []int{3, 5}}, {[]int{5, 3}, []int{3, 5}}, {[]int{5, 3}, []int{1, 2, 1, 2, 1, 1}},
		{[]int{2, 2, 9}, []int{9}}, {[]int{2, 9, 2}, []int{3, 3, 3, 2, 1, 1}}, {[]int{1, 1, 1, 1, 1, 12}, slices.Repeat([]int{1}, 12)}, {great, slices.Repeat([]int{6}, 12)}, {[]int{12}, slices.Repeat([]int{1}, 12)},
		{great, []int{7, 5, 8, 4, 9, 3, 10, 2, 11, 1, 6, 6}}, {[]int{12, 11, 10, 9, 8, 7}, []int{7, 8, 9, 10, 11, 12}}, {[]int{10, 10}, []int{5, 4, 4, 3, 2, 2}}, {[]int{10, 8}, []int{4, 4, 5, 5}}, {[]int{8, 9}, []int{3, 3, 5, 6}},
		{[]int{6, 6, 6}, []int{2, 2, 2, 3, 3, 3, 1, 1, 1}},
	} {
		checkPacked(t, newHall(1, x.rows...), x.sizes...)
	}
}

// P4.8: groups for which there are no rows, also where there are seats enough in all.
func TestPackNone(t *testing.T) {
	great := slices.Repeat([]int{12}, 6)
	checkPackError(t, "example", exampleH(), []int{4, 4}, api.ErrNone)
	for _, x := range []struct{ rows, sizes []int }{
		{[]int{1}, []int{2}}, {[]int{1}, []int{1, 1}}, {[]int{5, 3}, []int{6}}, {[]int{4, 4}, []int{3, 3, 2}}, {[]int{11, 11, 11, 11, 11, 11}, []int{12}}, {great, slices.Repeat([]int{7}, 7)},
		{great, []int{7, 7, 7, 7, 7, 5, 5, 5, 5, 5, 6, 7}}, {[]int{10, 10}, []int{6, 6, 2, 2, 2, 2, 1}}, {[]int{9, 9}, []int{5, 5, 5}}, {[]int{12}, []int{12, 12}}, {great, slices.Repeat([]int{12}, 12)},
	} {
		checkPackError(t, "groups that do not fit", newHall(1, x.rows...), x.sizes, api.ErrNone)
	}
}
