package ledger

import (
	"cmp"
	"slices"

	"quarterday/api"
	"quarterday/money"
)

// place is what a balance is of.
type place struct {
	entity       int
	account, cur string
}

// parts has the amounts that balances are made of. They stay apart till all are there, because only what comes of them in the end has to fit into 64 bits.
type parts map[place][]int

// add puts an amount to the others of its place.
func (p parts) add(b api.Balance) {
	at := place{b.Entity, b.Account, b.Cur}
	p[at] = append(p[at], b.Amount)
}

// together has the sums, in order, without those of 0, which count for how many there are.
func (p parts) together() ([]api.Balance, error) {
	if len(p) > api.MaxItems {
		return nil, api.ErrFull
	}
	var l []api.Balance
	for at, amounts := range p {
		sum, err := money.Sum(amounts)
		if err != nil {
			return nil, err
		}
		if sum != 0 {
			l = append(l, api.Balance{Entity: at.entity, Account: at.account, Cur: at.cur, Amount: sum})
		}
	}
	slices.SortFunc(l, compare)
	return l, nil
}

// compare orders balances by Entity, Account, Cur.
func compare(a, b api.Balance) int {
	return cmp.Or(cmp.Compare(a.Entity, b.Entity), cmp.Compare(a.Account, b.Account), cmp.Compare(a.Cur, b.Cur))
}

// isWithin tells whether a number is from -most to most.
func isWithin(n, most int) bool {
	return n >= -most && n <= most
}
