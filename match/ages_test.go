package match_test

import (
	"testing"

	"quarterday/api"
)

// rise are n bounds: first, and each one more.
func rise(first, n int) (l []int) {
	for i := range n {
		l = append(l, first+i)
	}
	return l
}

func TestM2AgesNone(t *testing.T) {
	ages(t, nil, 5, nil, 0)
	ages(t, []api.Item{}, 5, []int{}, 0)
	ages(t, nil, 5, []int{0, 7}, 0, 0, 0)
	ages(t, []api.Item{at(3, 5), at(3, -5)}, 5, []int{3}, 0, 0)
}

// TestM2AgesNoBounds: then all that is open is one sum.
func TestM2AgesNoBounds(t *testing.T) {
	l := []api.Item{at(1, 5), at(3, 7), at(3, -4), at(5, 9)}
	ages(t, l, 5, nil, 17)
	ages(t, l, 120, nil, 17)
}

// TestM2AgesBound: an age just at a bound, one below it, and one above.
func TestM2AgesBound(t *testing.T) {
	for _, bound := range []int{1, 2, 3, 60, 118} {
		for _, now := range []int{119, 120} {
			ages(t, []api.Item{at(now-bound+1, 7)}, now, []int{bound}, 7, 0)
			ages(t, []api.Item{at(now-bound, 7)}, now, []int{bound}, 0, 7)
			ages(t, []api.Item{at(now-bound, 7), at(now-bound+1, 5)}, now, []int{bound}, 5, 7)
			ages(t, []api.Item{at(now-bound, 7)}, now, []int{0, bound}, 0, 0, 7)
			ages(t, []api.Item{at(now-bound, 7)}, now, []int{bound, bound + 1}, 0, 7, 0)
			ages(t, []api.Item{at(now-bound, 7)}, now, []int{bound + 1, bound + 2}, 7, 0, 0)
		}
		ages(t, []api.Item{at(119-bound, 7)}, 120, []int{bound}, 0, 7)
	}
}

// TestM2AgesOfNow: an item of the period that is asked is 0 periods ago.
func TestM2AgesOfNow(t *testing.T) {
	for _, now := range []int{1, 5, 120} {
		ages(t, []api.Item{at(now, 7)}, now, nil, 7)
		ages(t, []api.Item{at(now, 7)}, now, []int{0}, 0, 7)
		ages(t, []api.Item{at(now, 7)}, now, []int{1}, 7, 0)
		ages(t, []api.Item{at(now, 7)}, now, []int{0, 1}, 0, 7, 0)
		ages(t, []api.Item{at(now, 7), at(now, -7)}, now, []int{1}, 0, 0)
	}
	ages(t, []api.Item{at(1, 7)}, 120, []int{118}, 0, 7)
	ages(t, []api.Item{at(1, 7)}, 120, []int{119}, 0, 7) // the oldest
	ages(t, []api.Item{at(1, 7)}, 120, []int{120}, 7, 0)
}

// TestM2AgesSeveral: sums of several ages and bounds; no age is below a bound of 0.
func TestM2AgesSeveral(t *testing.T) {
	l := []api.Item{at(1, 1), at(4, 10), at(4, 20), at(6, 300), at(7, 4000), at(9, 50000), at(10, 600000)}
	ages(t, l, 10, []int{1, 3, 5, 7}, 600000, 50000, 4300, 30, 1)
	ages(t, l, 10, []int{0, 1, 2, 3, 4}, 0, 600000, 50000, 0, 4000, 331)
	ages(t, l, 10, []int{4, 9}, 654000, 330, 1)
	ages(t, l, 10, []int{9, 10, 100, most}, 654330, 1, 0, 0, 0)
	ages(t, l, 10, []int{most}, 654331, 0)
	ages(t, l, 10, []int{0, most}, 0, 654331, 0)
	ages(t, l, 12, []int{1, 3, 5, 7}, 0, 600000, 50000, 4300, 31)
}

// TestM2AgesOpen: only what is open counts, as old as it is, whatever it was set off against, of both signs' items.
func TestM2AgesOpen(t *testing.T) {
	ages(t, []api.Item{at(1, 5), at(2, 6), at(5, -7), at(6, 1)}, 6, []int{1, 4, 5}, 1, 0, 4, 0)
	ages(t, []api.Item{at(1, 5), at(2, 6), at(5, -13)}, 6, []int{1, 4, 5}, 0, -2, 0, 0)
	ages(t, []api.Item{at(1, -5), at(2, -6), at(5, 3), at(6, -9)}, 6, []int{1, 5}, -9, -6, -2)
	ages(t, []api.Item{at(1, -5), at(1, -6), at(1, -1)}, 6, []int{5}, 0, -12)
	ages(t, []api.Item{at(1, 5), at(3, -5), at(4, -3), at(6, 3)}, 6, []int{1, 2, 3}, 0, 0, 0, 0)
}

// TestM2AgesBig: as many items as may be, each as much as may be.
func TestM2AgesBig(t *testing.T) {
	var owed, paid []api.Item
	for i := range api.MaxItems {
		owed, paid = append(owed, at(1+i/100, big15)), append(paid, at(1+i/100, -big15))
	}
	ages(t, owed, 2, nil, 200*big15)
	ages(t, paid, 2, nil, -200*big15)
	ages(t, owed, 2, []int{1}, 100*big15, 100*big15)
	ages(t, paid, 2, []int{1, 2}, -100*big15, -100*big15, 0)
}

// TestM2AgesMaxRules: as many bounds as may be, and one more.
func TestM2AgesMaxRules(t *testing.T) {
	var l []api.Item
	want := make([]int, api.MaxRules+1)
	for period := 1; period <= 30; period++ {
		l = append(l, at(period, period))
		want[max(0, min(30-period-4, api.MaxRules))] += period
	}
	ages(t, l, 30, rise(5, api.MaxRules), want...)
	for _, n := range []int{1, 2, 19, api.MaxRules} {
		ages(t, nil, 30, rise(0, n), make([]int, n+1)...)
	}
	for _, n := range []int{21, 22, 100_000} {
		unaged(t, l, 30, rise(0, n), api.ErrFull)
		unaged(t, l, 30, rise(-1, n), api.ErrFull)
		unaged(t, nil, 30, make([]int, n), api.ErrFull)
	}
}

// TestM2AgesOrder: bounds that rise, stay and fall, and the first below 0 and of 0.
func TestM2AgesOrder(t *testing.T) {
	l := []api.Item{at(3, 7)}
	for _, bounds := range [][]int{{0}, {1}, {most}, {0, 1}, {0, most}, {most - 1, most}, {3, 4, 9, 100}, {5, 200, 201}} {
		ages(t, nil, 3, bounds, make([]int, len(bounds)+1)...)
	}
	for _, bounds := range [][]int{
		{-1}, {least}, {-1, 0}, {-1, 5, 7}, {least, 0, most}, {-most, most},
		{0, 0}, {5, 5}, {most, most}, {0, 1, 1}, {1, 1, 2}, {3, 4, 5, 5, 6},
		{1, 0}, {5, 4}, {most, 0}, {most, 5}, {most, least}, {0, -1}, {3, -1}, {0, least}, {1, 5, 4}, {1, 2, 1}, {2, 1, 3}, {5, 6, 3, 7},
	} {
		unaged(t, l, 3, bounds, api.ErrOrder)
		unaged(t, nil, 120, bounds, api.ErrOrder)
	}
	for i := 1; i < api.MaxRules; i++ {
		for _, n := range []int{0, 4 + i - 1, i} { // 5 + i would be the right one
			bounds := rise(5, api.MaxRules)
			bounds[i] = n
			unaged(t, l, 3, bounds, api.ErrOrder)
		}
	}
}

// TestM2AgesPeriod: at the least and the greatest, and beyond.
func TestM2AgesPeriod(t *testing.T) {
	for _, n := range []int{1, 2, 119, api.MaxPeriod} {
		ages(t, []api.Item{at(1, 7)}, n, []int{120}, 7, 0)
	}
	for _, n := range []int{0, -1, 121, 122, most, least} {
		unaged(t, nil, n, nil, api.ErrRange)
		unaged(t, []api.Item{at(1, 7)}, n, []int{1}, api.ErrRange)
		unaged(t, []api.Item{at(120, 7)}, n, []int{1}, api.ErrRange)
	}
}

// TestM2AgesLater: an item of a later period, open, set off, and set off in part, as the first one and behind others.
func TestM2AgesLater(t *testing.T) {
	for _, l := range [][]api.Item{
		{at(6, 7)},
		{at(5, 7), at(6, 1)},
		{at(5, 7), at(6, -1)}, // set off
		{at(5, 7), at(6, -7)},
		{at(5, 7), at(6, -8)},
		{at(6, 7), at(6, -7)},
		{at(1, 7), at(5, 7), at(6, -14)},
		{at(1, 7), at(5, -7), at(120, 7), at(120, -7)},
	} {
		unaged(t, l, 5, nil, api.ErrState)
		unaged(t, l, 5, []int{0, 1, 2}, api.ErrState)
		unaged(t, l, 1, []int{1}, api.ErrState)
		sum := 0
		for _, o := range l {
			sum += o.Amount
		}
		ages(t, l, 120, nil, sum)
	}
}

// TestM2AgesWhich: Check's errors, then the period, how many bounds, their order, then items of later periods.
func TestM2AgesWhich(t *testing.T) {
	later := []api.Item{at(120, 7)}
	for _, l := range wrongItems() {
		want := errorOf(t, l)
		unaged(t, l, 0, rise(-1, 21), want)
		unaged(t, l, 1, nil, want)
		unaged(t, l, 120, []int{1}, want)
	}
	unaged(t, later, 0, rise(-1, 21), api.ErrRange)
	unaged(t, later, 121, []int{-1}, api.ErrRange)
	unaged(t, later, 0, []int{1}, api.ErrRange)
	unaged(t, later, 119, rise(-1, 21), api.ErrFull)
	unaged(t, later, 119, rise(0, 21), api.ErrFull)
	unaged(t, later, 119, []int{-1}, api.ErrOrder)
	unaged(t, later, 119, []int{2, 2}, api.ErrOrder)
	unaged(t, later, 119, []int{2, 3}, api.ErrState)
	ages(t, later, 120, []int{2, 3}, 7, 0, 0)
}
