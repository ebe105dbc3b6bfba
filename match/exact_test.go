package match_test

import (
	"slices"
	"testing"

	"quarterday/api"
)

// TestM2ExactNone: 0 is what none are together, whatever items there are; of no items nothing else is.
func TestM2ExactNone(t *testing.T) {
	exact(t, nil, 0)
	for _, want := range []int{1, 5, -5, big15, most, least} {
		inexact(t, nil, want, api.ErrNone)
		inexact(t, []api.Item{}, want, api.ErrNone)
	}
	for _, of := range [][]int{{5}, {-5}, {5, -5}, {1, 2, -3}, {big15, -big15}, slices.Repeat([]int{5, -5}, 8)} {
		exact(t, of, 0)
	}
}

func TestM2ExactOne(t *testing.T) {
	exact(t, []int{5}, 5, 0)
	exact(t, []int{1, 2, 4, 8}, 1, 0)
	exact(t, []int{1, 2, 4, 8}, 8, 3)
	exact(t, []int{7, 5, 5}, 5, 1) // two are
	exact(t, []int{5, 5, 5}, 5, 0)
	exact(t, []int{-5, 5, 5, -5}, 5, 1)
	exact(t, []int{-5, 5, 5, -5}, -5, 0)
	exact(t, []int{3, big15, 1}, big15, 1)
	inexact(t, amounts(5), -5, api.ErrNone)
	inexact(t, amounts(5), 4, api.ErrNone)
	inexact(t, amounts(5), 6, api.ErrNone)
	inexact(t, amounts(5), 10, api.ErrNone) // none is taken twice
}

// TestM2ExactEach: of powers of two each amount has one way.
func TestM2ExactEach(t *testing.T) {
	var of []int
	for i := range 10 {
		of = append(of, 1<<i)
	}
	for want := range 1 << 10 {
		var numbers []int
		for i := range of {
			if want>>i&1 != 0 {
				numbers = append(numbers, i)
			}
		}
		exact(t, of, want, numbers...)
	}
	inexact(t, amounts(of...), 1<<10, api.ErrNone)
	inexact(t, amounts(of...), -1, api.ErrNone)
}

// TestM2ExactFew: fewer ones that stand behind more are taken.
func TestM2ExactFew(t *testing.T) {
	exact(t, []int{2, 3, 4, 9}, 9, 3)
	exact(t, []int{2, 3, 4, 5}, 9, 2, 3)
	exact(t, []int{1, 2, 3, 4, 4, 6}, 10, 3, 5)
	exact(t, []int{1, 1, 1, 1, 3, 2}, 5, 4, 5)
	exact(t, []int{1, 2, 3, 5, -1}, 4, 0, 2)
	exact(t, []int{5, -1, -1, 4, 3}, 3, 4)
	exact(t, []int{5, -1, -1, 4}, 3, 1, 3)
	exact(t, []int{5, -1, -1}, 3, 0, 1, 2)
	exact(t, append(slices.Repeat([]int{1}, 15), 15), 15, 15)
	exact(t, append(slices.Repeat([]int{1}, 14), 7, 8), 15, 14, 15)
}

// TestM2ExactFirst: of several that are equally few the first by their numbers, one number after the other.
func TestM2ExactFirst(t *testing.T) {
	exact(t, []int{1, 4, 2, 3}, 5, 0, 1)    // ahead of 2 3
	exact(t, []int{1, 2, 3, 4}, 5, 0, 3)    // ahead of 1 2
	exact(t, []int{2, 1, 9, 4, 3}, 5, 0, 4) // ahead of 1 3
	exact(t, []int{3, 2, 3, 2}, 5, 0, 1)    // ahead of 0 3, 1 2 and 2 3
	exact(t, []int{5, 1, 2, 7, 6, 8}, 15, 3, 5)
	exact(t, []int{1, 2, 3, 4, 5, 6}, 12, 0, 4, 5)
	exact(t, []int{6, 5, 4, 3, 2, 1}, 10, 0, 2)
	exact(t, []int{1, 1, 1, 1, 1}, 3, 0, 1, 2)
	exact(t, []int{9, 1, 1, 1, 1}, 3, 1, 2, 3)
	exact(t, []int{1, 9, 1, 9, 1, 1}, 4, 0, 2, 4, 5)
	exact(t, []int{1, 2, 2, 1, 3, 3}, 6, 4, 5) // fewer than 0 1 4
	exact(t, []int{1, 9, 8, 2, 3, 7, 4}, 12, 1, 4)
}

// TestM2ExactSides: of amounts above 0 and below.
func TestM2ExactSides(t *testing.T) {
	exact(t, []int{10, -3, -4}, 7, 0, 1)
	exact(t, []int{10, -3, -4}, 6, 0, 2)
	exact(t, []int{10, -3, -4}, 3, 0, 1, 2)
	exact(t, []int{10, -3, -4}, -7, 1, 2)
	exact(t, []int{-3, 10, 7, -7, -10}, -6+3, 0)
	exact(t, []int{-3, 10, 5, -8, -10}, -6, 0, 2, 3)
	exact(t, []int{big15, -big15, big15 - 1, 1}, -1, 1, 2)
	for _, want := range []int{1, 2, 5, 8, 9, 11, -1, -2, -5, -8} {
		inexact(t, amounts(10, -3, -4), want, api.ErrNone)
	}
}

// TestM2ExactMost: just 16 items, and one more; as much as may be; the least and the greatest number.
func TestM2ExactMost(t *testing.T) {
	all := []int{0, 1, 2, 3, 4, 5, 6, 7, 8, 9, 10, 11, 12, 13, 14, 15}
	sixteen := slices.Repeat([]int{big15}, 16)
	exact(t, sixteen, 16*big15, all...)
	exact(t, sixteen, 15*big15, all[:15]...)
	exact(t, sixteen, big15, 0)
	exact(t, sixteen, 0)
	for _, want := range []int{17 * big15, -big15, big15 + 1, 16*big15 + 1, most, least, most - 1, least + 1} {
		inexact(t, amounts(sixteen...), want, api.ErrNone)
		inexact(t, amounts(-3, 2, 2), want, api.ErrNone)
	}
	ones := slices.Repeat([]int{1}, 16)
	exact(t, ones, 16, all...)
	inexact(t, amounts(ones...), 17, api.ErrNone)
	for _, n := range []int{17, 18, api.MaxItems} {
		of := slices.Repeat([]int{1}, n)
		for _, want := range []int{0, 1, 16, 17, most, least} {
			inexact(t, amounts(of...), want, api.ErrFull)
		}
	}
}

// TestM2ExactWhoever: neither Refs nor periods tell which are taken, nor what would be set off.
func TestM2ExactWhoever(t *testing.T) {
	exact(t, []int{5, -5, 7}, 5, 0)
	exact(t, []int{5, -5, 7}, 12, 0, 2)
	l := []api.Item{item("b", 1, 5), item("a", 7, 3), item("a", 120, 5)}
	for want, numbers := range map[int][]int{5: {0}, 3: {1}, 8: {0, 1}, 10: {0, 2}, 13: {0, 1, 2}} {
		exactly(t, l, want, numbers)
	}
}

// TestM2ExactWhich: each error of Check ahead of ErrFull ahead of ErrNone.
func TestM2ExactWhich(t *testing.T) {
	for _, l := range wrongItems() {
		want := errorOf(t, l)
		inexact(t, l, 0, want)
		inexact(t, l, 5, want)
		if len(l) <= api.MaxItems {
			inexact(t, append(l, slices.Repeat([]api.Item{at(120, 5)}, 17)...), most, want)
		}
	}
	for _, o := range []api.Item{{}, at(0, 5), at(5, 0), at(5, -big15-1), at(4, 5)} {
		l := append(slices.Repeat([]api.Item{at(5, 5)}, 17), o)
		inexact(t, l, 0, errorOf(t, l))
		inexact(t, l[:17], 0, api.ErrFull)
		inexact(t, l[2:], 5, errorOf(t, l))
		inexact(t, l[2:17], 80, api.ErrNone)
	}
	unset(t, items(api.MaxItems+1), api.ErrFull)
}
