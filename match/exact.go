package match

import (
	"quarterday/api"
)

// maxExact is of how many items some are found: all ways to take some of them are tried.
const maxExact = 16

// Exact finds items that are an amount together.
func Exact(l []api.Item, want int) ([]int, error) {
	if err := Check(l); err != nil {
		return nil, err
	}
	if len(l) > maxExact {
		return nil, api.ErrFull
	}
	for count := range len(l) + 1 {
		if taken, ok := take(l, count, want); ok {
			return taken, nil
		}
	}
	return nil, api.ErrNone
}

// take has the numbers of just so many items that are an amount together, the first by their numbers, and tells whether there are any.
func take(l []api.Item, count, want int) (taken []int, ok bool) {
	// It calls itself for those behind the one that it takes, and ends because one less is to be taken.
	var isFound func(from, sum int) bool
	isFound = func(from, sum int) bool {
		if len(taken) == count {
			return sum == want
		}
		for i := from; i < len(l); i++ {
			taken = append(taken, i)
			if isFound(i+1, sum+l[i].Amount) {
				return true
			}
			taken = taken[:len(taken)-1]
		}
		return false
	}
	ok = isFound(0, 0)
	return taken, ok
}
