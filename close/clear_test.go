package close_test

import (
	"fmt"
	"testing"

	"quarterday/api"
	"quarterday/close"
)

// lock brings a period to Locked, with what is posted behind Paired, so that no rates are asked for it.
func lock(t *testing.T, c *close.Close, period int, posts func()) {
	t.Helper()
	upTo(t, c, period, api.Paired)
	posts()
	upTo(t, c, period, api.Locked)
}

// TestQ2Cleared: Income and Expense alone, by entity, then currency, accounts in order, then kept with what they had together.
func TestQ2Cleared(t *testing.T) {
	c := made(t)
	lock(t, c, 1, func() {
		post(t, c, even("a", 12, 1, "4", "100", "USD", 7))
		post(t, c, even("b", 2, 1, "51", "2", "USD", 1))
		post(t, c, even("c", 2, 1, "50", "31", "AAA", 2))
		post(t, c, even("d", 2, 1, "11", "40", "USD", 30))
		post(t, c, even("e", 2, 1, "11", "4", "USD", 500))
		post(t, c, even("f", 2, 1, "50", "31", "USD", 4))
		post(t, c, even("g", 10, 1, "100", "50", "EUR", 5))
		post(t, c, even("h", 1, 1, "31", "100", "EUR", 6)) // none of Income and Expense
	})
	advance(t, c, 1,
		came(8, 2, 1, line("50", "AAA", 2), line("30", "AAA", -2)),
		came(9, 2, 1, line("4", "USD", -500), line("40", "USD", -30), line("50", "USD", 4), line("51", "USD", 1), line("30", "USD", 525)),
		came(10, 10, 1, line("50", "EUR", -5), line("30", "EUR", 5)),
		came(11, 12, 1, line("4", "USD", 7), line("30", "USD", -7)))
}

// TestQ2ClearedTogether: no line of kept, where they have 0 together; no entry, where each has 0.
func TestQ2ClearedTogether(t *testing.T) {
	c := made(t)
	post(t, c, even("a", 1, 1, "4", "50", "EUR", 7))
	post(t, c, even("b", 2, 1, "4", "100", "EUR", 7))
	post(t, c, even("c", 2, 1, "100", "4", "EUR", 7))
	post(t, c, even("d", 3, 1, "40", "100", "EUR", 5))
	post(t, c, even("e", 3, 1, "100", "50", "EUR", 3))
	post(t, c, even("f", 3, 1, "100", "51", "EUR", 2))
	upTo(t, c, 1, api.Locked)
	advance(t, c, 1,
		came(6, 1, 1, line("4", "EUR", 7), line("50", "EUR", -7)),
		came(7, 3, 1, line("40", "EUR", 5), line("50", "EUR", -3), line("51", "EUR", -2)))
}

// TestQ2ClearedKept: kept is the one that New was told.
func TestQ2ClearedKept(t *testing.T) {
	for _, kept := range []string{"30", "31"} {
		c, err := close.New(house(), nil, "EUR", "40", kept)
		if err != nil {
			t.Fatal(err)
		}
		post(t, c, sale("a", 1))
		upTo(t, c, 1, api.Locked)
		advance(t, c, 1, came(1, 1, 1, line("4", "EUR", 7), line(kept, "EUR", -7)))
	}
}

// TestQ2ClearedNone: nothing comes of what no Income and Expense has.
func TestQ2ClearedNone(t *testing.T) {
	c := made(t)
	upTo(t, c, 1, api.Locked)
	advance(t, c, 1)
	post(t, c, even("a", 1, 2, "31", "100", "EUR", 5))
	post(t, c, even("b", 1, 2, "2", "30", "EUR", 5))
	upTo(t, c, 2, api.Locked)
	advance(t, c, 2)
}

// twice posts two entries by which an account has MaxAmount and so much more, on a side.
func twice(t *testing.T, c *close.Close, ref string, entity int, code, cur string, sign, more int) {
	t.Helper()
	post(t, c, even(ref, entity, 1, "31", code, cur, sign*big15))
	if more != 0 {
		post(t, c, even(ref+"-more", entity, 1, "31", code, cur, sign*more))
	}
}

// TestQ2ClearedAmounts: a balance just at and just past MaxAmount, on either side, of Income and Expense alone.
func TestQ2ClearedAmounts(t *testing.T) {
	for _, sign := range []int{1, -1} {
		for _, code := range []string{"4", "40", "50", "51"} {
			for _, cur := range []string{"EUR", "ZZZ"} {
				c := made(t)
				lock(t, c, 1, func() { twice(t, c, "a", 12, code, cur, sign, 0) })
				advance(t, c, 1, came(1, 12, 1, line(code, cur, -sign*big15), line("30", cur, sign*big15)))
				for _, more := range []int{1, big15} {
					c = made(t)
					lock(t, c, 1, func() { twice(t, c, "a", 12, code, cur, sign, more) })
					stuck(t, c, 1, api.ErrRange)
				}
			}
		}
		c := made(t)
		lock(t, c, 1, func() {
			twice(t, c, "a", 1, "100", "EUR", sign, 1)
			twice(t, c, "b", 1, "2", "EUR", sign, big15)
			post(t, c, sale("c", 1))
		})
		advance(t, c, 1, came(5, 1, 1, line("4", "EUR", 7), line("30", "EUR", -7)))
	}
}

// costs posts what n accounts of Expense have, one each, the first of which has more.
func costs(t *testing.T, c *close.Close, entity, n int, cur string, first int) {
	t.Helper()
	for i := range n {
		amount := 1
		if i == 0 {
			amount = first
		}
		post(t, c, even(fmt.Sprint("c", entity, "-", len(c.Entries())), entity, 1, "2", fmt.Sprint(600+i), cur, amount))
	}
}

// TestQ2ClearedAccounts: just 19 accounts, and one more, whether there is a line of kept or none.
func TestQ2ClearedAccounts(t *testing.T) {
	for _, n := range []int{18, 19, 20, 21, 30} {
		for _, first := range []int{1, 1 - n} {
			c := of(t, wide())
			lock(t, c, 1, func() { costs(t, c, 4, n, "EUR", first) })
			if n > 19 {
				stuck(t, c, 1, api.ErrFull)
				continue
			}
			lines := []api.Line{line("600", "EUR", -first)}
			for i := 1; i < n; i++ {
				lines = append(lines, line(fmt.Sprint(600+i), "EUR", -1))
			}
			if together := first + n - 1; together != 0 {
				lines = append(lines, line("30", "EUR", together))
			}
			advance(t, c, 1, came(n, 4, 1, lines...))
		}
	}
}

// TestQ2ClearedAccountsEach: 19 accounts may be of each entity and currency.
func TestQ2ClearedAccountsEach(t *testing.T) {
	c := of(t, wide())
	lock(t, c, 1, func() {
		costs(t, c, 4, 19, "EUR", 1)
		costs(t, c, 4, 19, "USD", 1)
		costs(t, c, 5, 19, "EUR", 1)
	})
	n, err := c.Advance(1)
	if n != 3 || err != nil {
		t.Errorf("Advance = %d, %v", n, err)
	}
}

// TestQ2ClearedSum: what they had together just at and just past MaxAmount, on either side.
func TestQ2ClearedSum(t *testing.T) {
	for _, sign := range []int{1, -1} {
		for _, more := range []int{-1, 0, 1, big15} {
			c := made(t)
			lock(t, c, 1, func() {
				post(t, c, even("a", 3, 1, "31", "4", "EUR", sign*big15))
				post(t, c, even("b", 3, 1, "31", "50", "EUR", -sign))
				post(t, c, even("c", 3, 1, "31", "51", "EUR", sign))
				if more != 0 {
					post(t, c, even("d", 3, 1, "31", "40", "EUR", sign*more))
				}
			})
			if more > 0 {
				stuck(t, c, 1, api.ErrRange)
				continue
			}
			if n, err := c.Advance(1); n != 1 || err != nil {
				t.Errorf("Advance = %d, %v", n, err)
			}
			all := c.Entries()
			lines := all[len(all)-1].Lines
			if got := lines[len(lines)-1]; got != line("30", "EUR", sign*(big15+more)) {
				t.Errorf("kept has %v", got)
			}
		}
	}
	c := of(t, wide()) // 19 of the greatest together
	lock(t, c, 1, func() {
		for i := range 19 {
			post(t, c, even(fmt.Sprint("c", i), 1, 1, "2", fmt.Sprint(600+i), "EUR", big15))
		}
	})
	stuck(t, c, 1, api.ErrRange)
}

// TestQ2ClearedWhich: any balance is told ahead of all entries; then entry by entry how many accounts, then what they had together; last how many entries there are.
func TestQ2ClearedWhich(t *testing.T) {
	beyond := func(c *close.Close, entity int, cur string) {
		twice(t, c, fmt.Sprint("x", entity), entity, "4", cur, 1, 1)
	}
	many := func(c *close.Close, entity int, cur string) { costs(t, c, entity, 20, cur, 1) }
	much := func(c *close.Close, entity int, cur string) {
		post(t, c, even(fmt.Sprint("y", entity), entity, 1, "2", "628", cur, big15))
		post(t, c, even(fmt.Sprint("z", entity), entity, 1, "2", "629", cur, big15))
	}
	full := func(c *close.Close) { fill(t, c, api.MaxEntries, 1) }
	for _, row := range []struct {
		posts func(c *close.Close)
		want  api.Errno
	}{
		{func(c *close.Close) { many(c, 1, "EUR"); beyond(c, 12, "USD") }, api.ErrRange},
		{func(c *close.Close) { many(c, 1, "EUR"); beyond(c, 1, "USD") }, api.ErrRange},
		{func(c *close.Close) { many(c, 2, "EUR"); beyond(c, 1, "USD") }, api.ErrRange},
		{func(c *close.Close) { many(c, 1, "EUR"); much(c, 1, "EUR") }, api.ErrFull},
		{func(c *close.Close) { many(c, 1, "EUR"); much(c, 2, "EUR") }, api.ErrFull},
		{func(c *close.Close) { many(c, 2, "EUR"); much(c, 1, "EUR") }, api.ErrRange},
		{func(c *close.Close) { many(c, 1, "EUR"); much(c, 1, "USD") }, api.ErrFull},
		{func(c *close.Close) { many(c, 1, "USD"); much(c, 1, "EUR") }, api.ErrRange},
		{func(c *close.Close) { much(c, 1, "EUR"); full(c) }, api.ErrRange},
		{func(c *close.Close) { beyond(c, 1, "EUR"); full(c) }, api.ErrRange},
		{func(c *close.Close) { post(t, c, sale("sale", 1)); full(c) }, api.ErrFull},
		{func(c *close.Close) { post(t, c, sale("sale", 1)); much(c, 2, "EUR"); full(c) }, api.ErrRange},
	} {
		c := of(t, wide())
		lock(t, c, 1, func() { row.posts(c) })
		stuck(t, c, 1, row.want)
		stuck(t, c, 1, row.want)
	}
}

// TestQ2ClearedLater: what is in later periods is not cleared.
func TestQ2ClearedLater(t *testing.T) {
	c := made(t)
	post(t, c, sale("a", 1))
	post(t, c, sale("b", 2))
	post(t, c, even("c", 1, 3, "100", "50", "EUR", 2))
	upTo(t, c, 1, api.Locked)
	advance(t, c, 1, came(3, 1, 1, line("4", "EUR", 7), line("30", "EUR", -7)))
	upTo(t, c, 2, api.Locked)
	advance(t, c, 2, came(4, 1, 2, line("4", "EUR", 7), line("30", "EUR", -7)))
	upTo(t, c, 3, api.Locked)
	advance(t, c, 3, came(5, 1, 3, line("50", "EUR", -2), line("30", "EUR", 2)))
}

// TestQ2ClearedLate: an earlier period that is begun behind a later one clears what came to it, the later one what is left.
func TestQ2ClearedLate(t *testing.T) {
	c := made(t)
	told(t, "Plans", c.Plans([]api.Plan{{Ref: "p", Entity: 1, From: "50", To: "2", Cur: "EUR", Amount: 9, First: 1, Periods: 1}}), api.OK)
	post(t, c, sale("a", 2))
	upTo(t, c, 2, api.Locked)
	advance(t, c, 1, came(1, 1, 1, line("50", "EUR", 9), line("2", "EUR", -9)))
	stuck(t, c, 2, api.ErrState)
	upTo(t, c, 1, api.Locked)
	advance(t, c, 1, came(2, 1, 1, line("50", "EUR", -9), line("30", "EUR", 9)))
	advance(t, c, 2, came(3, 1, 2, line("4", "EUR", 7), line("30", "EUR", -7)))
}
