package chart

import (
	"slices"

	"quarterday/api"
	"quarterday/money"
)

// Leaves of a chart.
func Leaves(l []api.Account) ([]string, error) {
	if err := Check(l); err != nil {
		return nil, err
	}
	var codes []string
	for _, a := range l {
		if !slices.ContainsFunc(l, func(b api.Account) bool { return b.Parent == a.Code }) {
			codes = append(codes, a.Code)
		}
	}
	return codes, nil
}

// LeafCheck gives what tells why a code is no leaf's (ErrNone: there is no such account; ErrKind: others are under it), or says what is wrong with the chart. The leaves are looked for once, for all codes that are asked.
func LeafCheck(l []api.Account) (func(code string) error, error) {
	leaves, err := Leaves(l)
	if err != nil {
		return nil, err
	}
	own := slices.Clone(l) // a list that is handed in is not kept
	return func(code string) error {
		if index(own, code) < 0 {
			return api.ErrNone
		}
		if !slices.Contains(leaves, code) {
			return api.ErrKind
		}
		return nil
	}, nil
}

// Under gives an account and all that is under it.
func Under(l []api.Account, code string) ([]string, error) {
	if _, err := place(l, code); err != nil {
		return nil, err
	}
	var codes []string
	eachUnder(l, code, func(i int) { codes = append(codes, l[i].Code) })
	return codes, nil
}

// Roll adds up what is under each account.
func Roll(l []api.Account, amounts []int) ([]int, error) {
	if err := Check(l); err != nil {
		return nil, err
	}
	if len(amounts) != len(l) {
		return nil, api.ErrShape
	}
	sums := make([]int, len(l))
	for i, a := range l {
		// All amounts at once, not the sums of the accounts below: only what comes of it in the end has to fit.
		var parts []int
		eachUnder(l, a.Code, func(j int) { parts = append(parts, amounts[j]) })
		sum, err := money.Sum(parts)
		if err != nil {
			return nil, err
		}
		sums[i] = sum
	}
	return sums, nil
}

// eachUnder does something for the place of each account that is under one. One way through the chart finds all, because a Parent stands ahead.
func eachUnder(l []api.Account, code string, do func(i int)) {
	var found []string
	for i, a := range l {
		if a.Code == code || slices.Contains(found, a.Parent) {
			found = append(found, a.Code)
			do(i)
		}
	}
}
