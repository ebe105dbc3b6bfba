package money

import (
	"cmp"
	"math/bits"
	"slices"

	"quarterday/api"
)

// Shares parts a total.
func Shares(total int, weights []int) ([]int, error) {
	all, err := weigh(weights)
	if err != nil {
		return nil, err
	}
	parts := make([]uint64, len(weights))
	cut := make([]uint64, len(weights))
	left := size(total)
	for i, w := range weights {
		parts[i], cut[i] = part(size(total), uint64(w), all)
		left -= parts[i]
	}
	// What is left is the sum of what was cut off over all, and so less than how many lost something: nobody gets two.
	for _, i := range byCut(cut)[:left] {
		parts[i]++
	}
	shares := make([]int, len(parts))
	for i, p := range parts {
		shares[i] = withSign(p, total < 0)
	}
	return shares, nil
}

// weigh adds up weights, or tells what is wrong with them.
func weigh(weights []int) (uint64, error) {
	if len(weights) > api.MaxShares {
		return 0, api.ErrFull
	}
	if slices.ContainsFunc(weights, func(w int) bool { return !isPart(w) }) {
		return 0, api.ErrRange
	}
	var all uint64
	for _, w := range weights {
		all += uint64(w)
	}
	if all == 0 {
		return 0, api.ErrNone
	}
	return all, nil
}

// part is total times weight over all, rounded to 0, and how much was cut off (in parts of all). Div64 does not panic, because a weight is at most all.
func part(total, weight, all uint64) (whole, cut uint64) {
	high, low := bits.Mul64(total, weight)
	return bits.Div64(high, low, all)
}

// byCut gives the numbers of the parts, those of which most was cut off first.
func byCut(cut []uint64) []int {
	order := make([]int, len(cut))
	for i := range order {
		order[i] = i
	}
	slices.SortStableFunc(order, func(i, j int) int { return cmp.Compare(cut[j], cut[i]) })
	return order
}
