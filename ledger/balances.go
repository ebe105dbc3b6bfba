package ledger

import (
	"slices"

	"quarterday/api"
	"quarterday/chart"
)

// maxBalance is how far a balance is from 0 at most.
const maxBalance = 1_000_000_000_000_000_000 // 10^18

// Check tells what is wrong with balances.
func Check(l []api.Balance) error {
	if len(l) > api.MaxItems {
		return api.ErrFull
	}
	for i, b := range l {
		switch {
		case i > 0 && compare(l[i-1], b) >= 0:
			return api.ErrOrder
		case !isWithin(b.Amount, maxBalance):
			return api.ErrRange
		case b.Amount == 0:
			return api.ErrShape
		}
	}
	return nil
}

// Has is what an entity has in an account and a currency, 0 where there is no balance of it.
func Has(l []api.Balance, entity int, account, cur string) int {
	i := slices.IndexFunc(l, func(b api.Balance) bool {
		return b.Entity == entity && b.Account == account && b.Cur == cur
	})
	if i < 0 {
		return 0
	}
	return l[i].Amount
}

// Merge adds balances to others.
func Merge(a, b []api.Balance) ([]api.Balance, error) {
	p := parts{}
	for _, l := range [][]api.Balance{a, b} {
		if err := Check(l); err != nil {
			return nil, err
		}
		for _, x := range l {
			p.add(x)
		}
	}
	sums, err := p.together()
	if err != nil {
		return nil, err
	}
	if slices.ContainsFunc(sums, func(x api.Balance) bool { return !isWithin(x.Amount, maxBalance) }) {
		return nil, api.ErrOver
	}
	return sums, nil
}

// Statement of an entity.
func Statement(c []api.Account, l []api.Balance, entity int, cur string) ([]int, error) {
	if err := chart.Check(c); err != nil {
		return nil, err
	}
	if err := Check(l); err != nil {
		return nil, err
	}
	amounts := make([]int, len(c))
	for _, b := range l {
		if b.Entity != entity || b.Cur != cur {
			continue
		}
		i := slices.IndexFunc(c, func(a api.Account) bool { return a.Code == b.Account })
		if i < 0 {
			return nil, api.ErrNone
		}
		amounts[i] = b.Amount // the only one of this account, because balances rise
	}
	return chart.Roll(c, amounts)
}
