package accrue

import (
	"quarterday/api"
	"quarterday/entry"
	"quarterday/money"
)

// Declining parts of a cost.
func Declining(cost, rest, n, d, periods int) ([]int, error) {
	if !isFrom(0, cost, api.MaxAmount) || !isFrom(0, rest, cost) || !isFrom(0, n, d) || !isFrom(1, d, api.MaxRatio) || !entry.IsPeriod(periods) {
		return nil, api.ErrRange
	}
	left, parts := cost, make([]int, periods)
	for i := range periods {
		taken, err := money.Ratio(left, n, d)
		if err != nil {
			return nil, err
		}
		if i == periods-1 || taken > left-rest {
			taken = left - rest
		}
		parts[i] = taken
		left -= taken
	}
	return parts, nil
}

// isFrom tells whether n is from least to most.
func isFrom(least, n, most int) bool {
	return n >= least && n <= most
}
