package allot

import (
	"slices"
	"strconv"

	"quarterday/api"
	"quarterday/entry"
	"quarterday/ledger"
	"quarterday/money"
)

// refHead is what a Ref begins with, ahead of the pool's number.
const refHead = "allot-"

// Entries that give out.
func Entries(c []api.Account, l []api.Pool, b []api.Balance, entity, period int) ([]api.Entry, error) {
	if err := Check(c, l); err != nil {
		return nil, err
	}
	if err := ledger.Check(b); err != nil {
		return nil, err
	}
	if !entry.IsEntity(entity) || !entry.IsPeriod(period) {
		return nil, api.ErrRange
	}
	var made []api.Entry
	for i, p := range l {
		has := ledger.Has(b, entity, p.Account, p.Cur)
		if has == 0 { // there is no balance, because none is 0
			continue
		}
		lines, err := givenOut(p, has)
		if err != nil {
			return nil, err
		}
		made = append(made, api.Entry{Ref: refHead + strconv.Itoa(i), Entity: entity, Period: period, Lines: lines})
	}
	return made, nil
}

// givenOut has the lines by which a pool gives out what it has, which is not 0.
func givenOut(p api.Pool, has int) ([]api.Line, error) {
	if !entry.IsAmount(has) {
		return nil, api.ErrRange
	}
	shares, err := money.Shares(has, p.Weights)
	if err != nil {
		return nil, err
	}
	lines := []api.Line{{Account: p.Account, Cur: p.Cur, Amount: -has}}
	for i, code := range p.To {
		lines = append(lines, api.Line{Account: code, Cur: p.Cur, Amount: shares[i]})
	}
	return slices.DeleteFunc(lines, func(n api.Line) bool { return n.Amount == 0 }), nil
}
