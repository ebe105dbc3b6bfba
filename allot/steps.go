package allot

import (
	"slices"

	"quarterday/api"
	"quarterday/entry"
	"quarterday/money"
)

// Steps down.
func Steps(weights [][]int, amounts []int) ([]int, error) {
	if err := checkSteps(weights, amounts); err != nil {
		return nil, err
	}
	has := slices.Clone(amounts)
	for i, row := range weights {
		if err := stepDown(has[i:], row[i+1:]); err != nil {
			return nil, err
		}
	}
	return has, nil
}

// checkSteps tells what stands against stepping down.
func checkSteps(weights [][]int, amounts []int) error {
	if len(amounts) > api.MaxRules {
		return api.ErrFull
	}
	isOther := func(row []int) bool { return len(row) != len(amounts) }
	if len(weights) != len(amounts) || slices.ContainsFunc(weights, isOther) {
		return api.ErrShape
	}
	for i, row := range weights {
		// Those of its own and of the ones ahead too, though nothing is given by them.
		isWrong := func(w int) bool { return w < 0 || w > api.MaxRatio }
		if slices.ContainsFunc(row, isWrong) || !entry.IsAmount(amounts[i]) {
			return api.ErrRange
		}
	}
	return nil
}

// stepDown gives out what the first one has to those behind it, by their weights. No sum is too great, because the amounts that come together are bounded, and so is how many there are.
func stepDown(has, behind []int) error {
	if !slices.ContainsFunc(behind, func(w int) bool { return w > 0 }) {
		return nil // nobody takes it
	}
	shares, err := money.Shares(has[0], behind)
	if err != nil {
		return err
	}
	has[0] = 0
	for i, share := range shares {
		has[i+1] += share
	}
	return nil
}
