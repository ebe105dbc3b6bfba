package close

import (
	"slices"
	"strconv"

	"quarterday/accrue"
	"quarterday/allot"
	"quarterday/api"
	"quarterday/entry"
	"quarterday/pair"
	"quarterday/revalue"
)

// refHead is what the Ref of an entry that a stage brings begins with, ahead of its number. What is posted cannot begin so, and so never clashes with it.
const refHead = "-"

// Advance brings a period one stage further.
func (c *Close) Advance(period int) (int, error) {
	if !entry.IsPeriod(period) {
		return 0, api.ErrRange
	}
	if c.Stage(period) == api.Closed || !c.isDoneAhead(period) {
		return 0, api.ErrState
	}
	b, err := c.Balances(period)
	if err != nil {
		return 0, err
	}
	brought, err := c.brought(c.Stage(period)+1, b, period)
	if err != nil {
		return 0, err
	}
	if len(c.entries)+len(brought) > api.MaxEntries {
		return 0, api.ErrFull
	}
	for _, e := range brought {
		e.Ref = refHead + strconv.Itoa(len(c.entries))
		c.take(e)
	}
	c.stages[period]++
	return len(brought), nil
}

// isDoneAhead tells whether each period ahead of one is Closed, or was never used.
func (c *Close) isDoneAhead(period int) bool {
	for ahead := 1; ahead < period; ahead++ {
		switch c.Stage(ahead) {
		case api.Closed:
		case api.Open:
			if slices.ContainsFunc(c.entries, func(e api.Entry) bool { return e.Period == ahead }) {
				return false
			}
		default:
			return false
		}
	}
	return true
}

// brought are the entries that come with a stage, of balances as they are ahead of it.
func (c *Close) brought(stage int, b []api.Balance, period int) ([]api.Entry, error) {
	switch stage {
	case api.Accrued:
		return ofEach(func(entity int) ([]api.Entry, error) {
			return accrue.Entries(c.chart, c.plans, entity, period)
		})
	case api.Allotted:
		return ofEach(func(entity int) ([]api.Entry, error) {
			return allot.Entries(c.chart, c.pools, b, entity, period)
		})
	case api.Revalued:
		return ofEach(func(entity int) ([]api.Entry, error) {
			return revalue.Entries(c.chart, c.rates, c.base, c.gain, b, entity, period)
		})
	case api.Paired:
		return pair.Entries(c.chart, c.pairs, b, c.base, period)
	case api.Closed:
		return c.cleared(b, period)
	}
	return nil, nil // Locked only keeps others out
}

// ofEach puts together what comes of each entity, in order.
func ofEach(entries func(entity int) ([]api.Entry, error)) ([]api.Entry, error) {
	var all []api.Entry
	for entity := 1; entity <= api.MaxEntity; entity++ {
		l, err := entries(entity)
		if err != nil {
			return nil, err
		}
		all = append(all, l...)
	}
	return all, nil
}
