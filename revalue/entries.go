package revalue

import (
	"slices"

	"quarterday/api"
	"quarterday/chart"
	"quarterday/entry"
	"quarterday/money"
)

// refHead is what a Ref begins with, ahead of the account's Code.
const refHead = "value-"

// Entries that bring what is kept to what it is worth.
func Entries(c []api.Account, l []api.Rate, base, gain string, b []api.Balance, entity, period int) ([]api.Entry, error) {
	checkLeaf, err := chart.LeafCheck(c) // it says first what is wrong with the chart
	if err != nil {
		return nil, err
	}
	worth, err := Worth(l, base, b, entity, period)
	if err != nil {
		return nil, err
	}
	if err := checkLeaf(gain); err != nil {
		return nil, err
	}
	if slices.ContainsFunc(b, func(x api.Balance) bool { return x.Entity == entity && !isAccount(c, x.Account) }) {
		return nil, api.ErrNone
	}
	var made []api.Entry
	for _, a := range c {
		if !a.Money {
			continue
		}
		amount, err := lacking(b, worth, base, entity, a.Code)
		if err == nil {
			err = checkBrought(amount, a.Code, gain)
		}
		if err != nil {
			return nil, err
		}
		if amount != 0 {
			made = append(made, api.Entry{Ref: refHead + a.Code, Entity: entity, Period: period, Lines: brought(amount, base, a.Code, gain)})
		}
	}
	return made, nil
}

// isAccount tells whether a chart has an account with a code.
func isAccount(c []api.Account, code string) bool {
	return slices.ContainsFunc(c, func(a api.Account) bool { return a.Code == code })
}

// lacking is as much as an account's balance in base lacks of the worth of its others. Without others it is 0, because what is in base then is no other's worth.
func lacking(b []api.Balance, worth []int, base string, entity int, code string) (int, error) {
	var others []int
	has := 0
	for i, x := range b {
		switch {
		case x.Entity != entity || x.Account != code:
		case x.Cur == base:
			has = x.Amount
		default:
			others = append(others, worth[i])
		}
	}
	if len(others) == 0 {
		return 0, nil
	}
	sum, err := money.Sum(others) // by itself, because it has to fit whatever is in base
	if err != nil {
		return 0, err
	}
	return money.Add(sum, -has)
}

// checkBrought tells what stands against bringing an amount to an account. Nothing does where it is 0.
func checkBrought(amount int, code, gain string) error {
	if !entry.IsAmount(amount) {
		return api.ErrRange
	}
	if amount != 0 && code == gain {
		return api.ErrClash
	}
	return nil
}

// brought has the lines by which an amount comes to an account, and is gained or lost.
func brought(amount int, base, code, gain string) []api.Line {
	return []api.Line{{Account: code, Cur: base, Amount: amount}, {Account: gain, Cur: base, Amount: -amount}}
}
