package group

import (
	"slices"

	"quarterday/api"
	"quarterday/chart"
	"quarterday/ledger"
	"quarterday/money"
	"quarterday/rate"
	"quarterday/revalue"
)

// Translate puts all into one currency.
func Translate(rates []api.Rate, base string, b []api.Balance, period int) ([]api.Balance, error) {
	if err := revalue.CheckAsked(rates, base, b, period); err != nil {
		return nil, err
	}
	var sums []api.Balance
	for _, x := range b {
		worth, err := rate.Convert(rates, base, x.Cur, base, period, x.Amount)
		if err != nil {
			return nil, err
		}
		// Balances rise, so that those of one account follow each other.
		if n := len(sums); n == 0 || sums[n-1].Entity != x.Entity || sums[n-1].Account != x.Account {
			sums = append(sums, api.Balance{Entity: x.Entity, Account: x.Account, Cur: base})
		}
		last := &sums[len(sums)-1]
		if last.Amount, err = money.Add(last.Amount, worth); err != nil {
			return nil, err
		}
	}
	return slices.DeleteFunc(sums, func(x api.Balance) bool { return x.Amount == 0 }), nil
}

// Whole of a group: all amounts, and how much of them is others'.
func Whole(c []api.Account, rates []api.Rate, base string, l []api.Holding, top int, b []api.Balance, period int) ([]int, []int, error) {
	if err := chart.Check(c); err != nil {
		return nil, nil, err
	}
	parts, err := Parts(l, top)
	if err != nil {
		return nil, nil, err
	}
	sums, err := Translate(rates, base, b, period)
	if err != nil {
		return nil, nil, err
	}
	all, others := make([]int, len(c)), make([]int, len(c))
	for i, part := range parts {
		if part == 0 {
			continue
		}
		entity := i + 1
		if err := checkAccounts(c, b, entity); err != nil {
			return nil, nil, err
		}
		under, err := underEach(c, sums, base, entity)
		if err == nil {
			err = addParted(all, others, under, part)
		}
		if err != nil {
			return nil, nil, err
		}
	}
	return all, others, nil
}

// checkAccounts tells whether an entity's balances have accounts of the chart. It is asked of those that were handed in, because what is 0 in base is not translated.
func checkAccounts(c []api.Account, b []api.Balance, entity int) error {
	for _, x := range b {
		if x.Entity != entity {
			continue
		}
		if _, err := chart.Find(c, x.Account); err != nil {
			return err
		}
	}
	return nil
}

// underEach is what is under each account of an entity.
func underEach(c []api.Account, sums []api.Balance, base string, entity int) ([]int, error) {
	amounts := make([]int, len(c))
	for i, a := range c {
		amounts[i] = ledger.Has(sums, entity, a.Code, base)
	}
	return chart.Roll(c, amounts)
}

// addParted adds amounts of which the top has a part to what is all's, and what is over it to what is others'.
func addParted(all, others, amounts []int, part int) error {
	for i, n := range amounts {
		own, err := money.Ratio(n, part, whole)
		if err != nil {
			return err
		}
		if all[i], err = money.Add(all[i], n); err != nil {
			return err
		}
		if others[i], err = money.Add(others[i], n-own); err != nil { // own is not beyond n
			return err
		}
	}
	return nil
}
