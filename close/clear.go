package close

import (
	"cmp"
	"maps"
	"slices"

	"quarterday/api"
	"quarterday/entry"
)

// maxCleared is how many accounts one entry clears at most: a line is left for kept.
const maxCleared = api.MaxLines - 1

// purse is what an entity has in a currency.
type purse struct {
	entity int
	cur    string
}

// cleared are the entries that bring what Income and Expense have to kept.
func (c *Close) cleared(b []api.Balance, period int) ([]api.Entry, error) {
	purses, err := c.earned(b)
	if err != nil {
		return nil, err
	}
	var made []api.Entry
	for _, p := range slices.SortedFunc(maps.Keys(purses), comparePurses) {
		lines, err := c.clearing(purses[p])
		if err != nil {
			return nil, err
		}
		made = append(made, api.Entry{Entity: p.entity, Period: period, Lines: lines})
	}
	return made, nil
}

func comparePurses(a, b purse) int {
	return cmp.Or(cmp.Compare(a.entity, b.entity), cmp.Compare(a.cur, b.cur))
}

// earned has the balances of Income and Expense by entity and currency, each in the order of b.
func (c *Close) earned(b []api.Balance) (map[purse][]api.Balance, error) {
	kindOf := kinds(c.chart)
	purses := map[purse][]api.Balance{}
	for _, x := range b {
		if kind := kindOf[x.Account]; kind != api.Income && kind != api.Expense {
			continue
		}
		if !entry.IsAmount(x.Amount) {
			return nil, api.ErrRange
		}
		p := purse{x.Entity, x.Cur}
		purses[p] = append(purses[p], x)
	}
	return purses, nil
}

// clearing has the lines that make balances of one entity and currency 0, and give to kept what they had together.
func (c *Close) clearing(l []api.Balance) ([]api.Line, error) {
	if len(l) > maxCleared {
		return nil, api.ErrFull
	}
	var lines []api.Line
	sum := 0
	for _, x := range l {
		lines = append(lines, api.Line{Account: x.Account, Cur: x.Cur, Amount: -x.Amount})
		sum += x.Amount
	}
	if !entry.IsAmount(sum) {
		return nil, api.ErrRange
	}
	if sum != 0 {
		lines = append(lines, api.Line{Account: c.kept, Cur: l[0].Cur, Amount: sum})
	}
	return lines, nil
}
