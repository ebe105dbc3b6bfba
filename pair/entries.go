package pair

import (
	"strconv"

	"quarterday/api"
	"quarterday/entry"
	"quarterday/ledger"
	"quarterday/money"
	"quarterday/rate"
)

const (
	refHead  = "pair-" // ahead of the pair's number
	refTails = "ab"    // behind it, a byte for each side
)

// Left of pairs.
func Left(l []api.Pair, b []api.Balance, cur string) ([]int, error) {
	if len(l) > api.MaxRules {
		return nil, api.ErrFull
	}
	if err := ledger.Check(b); err != nil {
		return nil, err
	}
	if !rate.Cur(cur) {
		return nil, api.ErrSyntax
	}
	left := make([]int, len(l))
	for i, p := range l {
		has := had(p, b, cur)
		sum, err := money.Sum(has[:])
		if err != nil {
			return nil, err
		}
		left[i] = sum
	}
	return left, nil
}

// had is what both sides of a pair have in a currency.
func had(p api.Pair, b []api.Balance, cur string) (has [2]int) {
	for i, s := range sides(p) {
		has[i] = ledger.Has(b, s.entity, s.account, cur)
	}
	return has
}

// Entries that make both sides 0.
func Entries(c []api.Account, l []api.Pair, b []api.Balance, cur string, period int) ([]api.Entry, error) {
	if err := Check(c, l); err != nil {
		return nil, err
	}
	if _, err := Left(l, b, cur); err != nil {
		return nil, err
	}
	if !entry.IsPeriod(period) {
		return nil, api.ErrRange
	}
	var made []api.Entry
	for i, p := range l {
		has := had(p, b, cur)
		for j, s := range sides(p) {
			if has[j] == 0 { // there is nothing to be moved
				continue
			}
			if !entry.IsAmount(has[j]) {
				return nil, api.ErrRange
			}
			ref := refHead + strconv.Itoa(i) + refTails[j:j+1]
			made = append(made, api.Entry{Ref: ref, Entity: s.entity, Period: period, Lines: moved(has[j], cur, s.account, p.Diff)})
		}
	}
	return made, nil
}

// moved has the lines by which an amount goes from an account to where what is left goes.
func moved(amount int, cur, code, diff string) []api.Line {
	return []api.Line{{Account: code, Cur: cur, Amount: -amount}, {Account: diff, Cur: cur, Amount: amount}}
}
