package accrue

import (
	"strconv"

	"quarterday/api"
	"quarterday/entry"
)

// Part of a period.
func Part(p api.Plan, period int) (int, error) {
	if !isSpread(p) || !entry.IsPeriod(period) {
		return 0, api.ErrRange
	}
	return part(p, period), nil
}

// isSpread tells whether a plan's Amount can be spread over its Periods.
func isSpread(p api.Plan) bool {
	return p.Amount != 0 && entry.IsAmount(p.Amount) && entry.IsPeriod(p.Periods) && entry.IsPeriod(p.First)
}

// part is that of a period, of a plan that can be spread. An Amount times a period is of 64 bits.
func part(p api.Plan, period int) int {
	ahead := period - p.First
	if ahead < 0 || ahead >= p.Periods {
		return 0
	}
	return p.Amount*(ahead+1)/p.Periods - p.Amount*ahead/p.Periods
}

// Entries of a period.
func Entries(c []api.Account, l []api.Plan, entity, period int) ([]api.Entry, error) {
	if err := Check(c, l); err != nil {
		return nil, err
	}
	if !entry.IsEntity(entity) || !entry.IsPeriod(period) {
		return nil, api.ErrRange
	}
	var made []api.Entry
	for _, p := range l {
		if n := part(p, period); p.Entity == entity && n != 0 {
			made = append(made, accrued(p, period, n))
		}
	}
	return made, nil
}

// accrued is the entry of a plan's part.
func accrued(p api.Plan, period, amount int) api.Entry {
	return api.Entry{
		Ref:    p.Ref + "-" + strconv.Itoa(period),
		Entity: p.Entity,
		Period: period,
		Lines:  []api.Line{{Account: p.From, Cur: p.Cur, Amount: amount}, {Account: p.To, Cur: p.Cur, Amount: -amount}},
	}
}
