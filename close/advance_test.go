package close_test

import (
	"fmt"
	"testing"

	"quarterday/api"
	"quarterday/close"
)

// TestQ2Bounds: a period just at and just past its bounds.
func TestQ2Bounds(t *testing.T) {
	for _, period := range []int{1, 2, 119, 120} {
		c := made(t)
		for range api.Closed {
			advance(t, c, period)
		}
	}
	c := made(t)
	post(t, c, sale("a", 1)) // so that there would be ErrState of all but 1
	upTo(t, c, 1, api.Locked)
	for _, period := range []int{0, -1, -120, 121, 122, most, least} {
		stuck(t, c, period, api.ErrRange)
	}
}

// TestQ2Closed: what is Closed goes no further.
func TestQ2Closed(t *testing.T) {
	for _, period := range []int{1, 60, 120} {
		for _, posts := range []bool{false, true} {
			c := made(t)
			if posts {
				post(t, c, sale("a", period))
			}
			upTo(t, c, period, api.Closed)
			stuck(t, c, period, api.ErrState)
			stuck(t, c, period, api.ErrState)
		}
	}
}

// TestQ2Ahead: a period ahead at each stage, with entries and without.
func TestQ2Ahead(t *testing.T) {
	for _, periods := range [][2]int{{1, 2}, {1, 120}, {119, 120}, {5, 9}} {
		ahead, period := periods[0], periods[1]
		for _, posts := range []bool{false, true} {
			for stage := api.Open; stage <= api.Closed; stage++ {
				c := made(t)
				if posts {
					post(t, c, sale("a", ahead))
				}
				upTo(t, c, ahead, stage)
				if stage == api.Closed || stage == api.Open && !posts {
					advance(t, c, period)
				} else {
					stuck(t, c, period, api.ErrState)
				}
			}
		}
	}
}

// TestQ2AheadBegun: one that is more than Open keeps a later one back, though it has no entries; and though the later one has begun.
func TestQ2AheadBegun(t *testing.T) {
	c := made(t)
	upTo(t, c, 5, api.Revalued)
	upTo(t, c, 3, api.Accrued) // a later one's stage keeps nothing back
	stuck(t, c, 5, api.ErrState)
	upTo(t, c, 3, api.Locked)
	stuck(t, c, 5, api.ErrState)
	stuck(t, c, 4, api.ErrState)
	upTo(t, c, 3, api.Closed)
	advance(t, c, 5)
	advance(t, c, 4)
	stuck(t, c, 5, api.ErrState)
	advance(t, c, 1)
	stuck(t, c, 4, api.ErrState)
}

// TestQ2AheadOfSeveral: each one ahead counts, none behind does.
func TestQ2AheadOfSeveral(t *testing.T) {
	c := made(t)
	post(t, c, sale("a", 1))
	post(t, c, sale("b", 3))
	post(t, c, sale("c", 6))
	stuck(t, c, 4, api.ErrState)
	upTo(t, c, 1, api.Closed)
	stuck(t, c, 4, api.ErrState)
	stuck(t, c, 120, api.ErrState)
	upTo(t, c, 3, api.Closed)
	upTo(t, c, 4, api.Closed)
	upTo(t, c, 5, api.Closed)
	stuck(t, c, 7, api.ErrState)
	upTo(t, c, 6, api.Closed)
	advance(t, c, 120)
}

// TestQ2StateFirst: ErrState is told ahead of chapter 10's errors.
func TestQ2StateFirst(t *testing.T) {
	c := made(t)
	upTo(t, c, 2, api.Closed)
	spread(t, c, api.MaxItems+1, "X", 3)
	stuck(t, c, 2, api.ErrState)
	stuck(t, c, 4, api.ErrState)
	stuck(t, c, 3, api.ErrFull)
	stuck(t, c, 121, api.ErrRange)
}

// TestQ2Accrued: plans' entries, entity by entity, each one's in the plans' order.
func TestQ2Accrued(t *testing.T) {
	c := made(t)
	var plans []api.Plan
	for entity := api.MaxEntity; entity >= 1; entity-- {
		plans = append(plans, api.Plan{Ref: fmt.Sprint("p", entity), Entity: entity, From: "50", To: "2", Cur: "EUR", Amount: entity, First: 1, Periods: 1})
	}
	for _, entity := range []int{2, 1} {
		plans = append(plans, api.Plan{Ref: fmt.Sprint("q", entity), Entity: entity, From: "11", To: "31", Cur: "USD", Amount: -10, First: 1, Periods: 3})
	}
	told(t, "Plans", c.Plans(plans), api.OK)
	post(t, c, sale("a", 1))
	var want []api.Entry
	for entity := 1; entity <= api.MaxEntity; entity++ {
		want = append(want, came(1+len(want), entity, 1, line("50", "EUR", entity), line("2", "EUR", -entity)))
		if entity <= 2 {
			want = append(want, came(1+len(want), entity, 1, line("11", "USD", -3), line("31", "USD", 3)))
		}
	}
	advance(t, c, 1, want...)
	upTo(t, c, 1, api.Closed)
	n := len(c.Entries())
	advance(t, c, 2, came(n, 1, 2, line("11", "USD", -3), line("31", "USD", 3)), came(n+1, 2, 2, line("11", "USD", -3), line("31", "USD", 3)))
	upTo(t, c, 2, api.Closed)
	upTo(t, c, 4, api.Accrued) // behind the last part
	if got := len(c.Entries()); got != n+2 {
		t.Errorf("%d entries, want %d", got, n+2)
	}
}

// TestQ2Allotted: pools' entries, entity by entity, of what was there ahead of the stage.
func TestQ2Allotted(t *testing.T) {
	c := made(t)
	told(t, "Pools", c.Pools([]api.Pool{
		{Account: "51", Cur: "EUR", To: []string{"50", "100"}, Weights: []int{1, 1}},
		{Account: "50", Cur: "EUR", To: []string{"51"}, Weights: []int{1}}, // the pool ahead changes nothing of what it has
		{Account: "50", Cur: "USD", To: []string{"101"}, Weights: []int{5}},
	}), api.OK)
	post(t, c, even("a", 12, 1, "2", "51", "EUR", 7))
	post(t, c, even("b", 2, 1, "2", "50", "EUR", 5))
	post(t, c, even("c", 2, 1, "2", "51", "EUR", 4))
	post(t, c, even("d", 2, 1, "50", "2", "USD", 1))
	advance(t, c, 1)
	advance(t, c, 1,
		came(4, 2, 1, line("51", "EUR", -4), line("50", "EUR", 2), line("100", "EUR", 2)),
		came(5, 2, 1, line("50", "EUR", -5), line("51", "EUR", 5)),
		came(6, 2, 1, line("50", "USD", 1), line("101", "USD", -1)),
		came(7, 12, 1, line("51", "EUR", -7), line("50", "EUR", 4), line("100", "EUR", 3)))
}

// TestQ2Revalued: what changed its worth, entity by entity, accounts in their order.
func TestQ2Revalued(t *testing.T) {
	c := made(t)
	post(t, c, even("a", 3, 1, "31", "2", "USD", 8))
	post(t, c, even("b", 3, 1, "31", "100", "USD", 20))
	post(t, c, even("c", 1, 1, "31", "100", "USD", -6))
	post(t, c, even("d", 1, 1, "31", "100", "EUR", 1))
	post(t, c, even("e", 2, 1, "31", "101", "USD", 6)) // no Money
	post(t, c, even("f", 12, 1, "31", "100", "EUR", 9))
	upTo(t, c, 1, api.Allotted)
	advance(t, c, 1,
		came(6, 1, 1, line("100", "EUR", -4), line("40", "EUR", 4)),
		came(7, 3, 1, line("100", "EUR", 10), line("40", "EUR", -10)),
		came(8, 3, 1, line("2", "EUR", 4), line("40", "EUR", -4)))
	upTo(t, c, 1, api.Closed)
	upTo(t, c, 2, api.Allotted)
	n := len(c.Entries())
	advance(t, c, 2, // by the period's rates
		came(n, 1, 2, line("100", "EUR", 1), line("40", "EUR", -1)), // -1.5 is -2
		came(n+1, 3, 2, line("100", "EUR", -5), line("40", "EUR", 5)),
		came(n+2, 3, 2, line("2", "EUR", -2), line("40", "EUR", 2)))
}

// TestQ2BaseAndGain: worth is told in base, and what is gained in gain, whichever they are.
func TestQ2BaseAndGain(t *testing.T) {
	c, err := close.New(house(), worths(), "USD", "31", "31")
	if err != nil {
		t.Fatal(err)
	}
	told(t, "Pairs", c.Pairs([]api.Pair{{A: 1, B: 2, One: "100", Other: "11", Diff: "51"}}), api.OK)
	post(t, c, even("a", 1, 1, "2", "100", "EUR", 3))
	post(t, c, even("b", 1, 1, "51", "11", "EUR", 3))
	upTo(t, c, 1, api.Allotted)
	advance(t, c, 1, came(2, 1, 1, line("100", "USD", 6), line("31", "USD", -6)), came(3, 1, 1, line("2", "USD", -6), line("31", "USD", 6)))
	advance(t, c, 1, came(4, 1, 1, line("100", "USD", -6), line("51", "USD", 6)))
	advance(t, c, 1)
	advance(t, c, 1, came(5, 1, 1, line("51", "EUR", 3), line("31", "EUR", -3)), came(6, 1, 1, line("51", "USD", -6), line("31", "USD", 6)))
}

// TestQ2Paired: pairs' entries in the pairs' order, in base alone, of what was there ahead of the stage.
func TestQ2Paired(t *testing.T) {
	c := made(t)
	told(t, "Pairs", c.Pairs([]api.Pair{
		{A: 12, B: 2, One: "101", Other: "11", Diff: "31"},
		{A: 1, B: 2, One: "101", Other: "31", Diff: "51"}, // the pair ahead changes nothing of what it has
		{A: 4, B: 3, One: "101", Other: "11", Diff: "51"},
	}), api.OK)
	post(t, c, even("a", 2, 1, "31", "11", "EUR", 5))
	post(t, c, even("b", 12, 1, "51", "101", "EUR", -4))
	post(t, c, even("c", 1, 1, "51", "101", "USD", 6)) // not in base
	post(t, c, even("d", 3, 1, "2", "11", "EUR", 1))
	upTo(t, c, 1, api.Revalued)
	advance(t, c, 1,
		came(4, 12, 1, line("101", "EUR", 4), line("31", "EUR", -4)),
		came(5, 2, 1, line("11", "EUR", -5), line("31", "EUR", 5)),
		came(6, 2, 1, line("31", "EUR", 5), line("51", "EUR", -5)),
		came(7, 3, 1, line("11", "EUR", -1), line("51", "EUR", 1)))
}

// TestQ2Next: each stage sees what the one ahead of it brought, and what was posted between them.
func TestQ2Next(t *testing.T) {
	c := made(t)
	told(t, "Plans", c.Plans([]api.Plan{{Ref: "a", Entity: 2, From: "51", To: "31", Cur: "USD", Amount: 30, First: 1, Periods: 1}}), api.OK)
	told(t, "Pools", c.Pools([]api.Pool{{Account: "51", Cur: "USD", To: []string{"2", "50"}, Weights: []int{2, 1}}}), api.OK)
	told(t, "Pairs", c.Pairs([]api.Pair{{A: 1, B: 2, One: "11", Other: "2", Diff: "4"}}), api.OK)
	advance(t, c, 1, came(0, 2, 1, line("51", "USD", 30), line("31", "USD", -30)))
	post(t, c, even("b", 2, 1, "31", "51", "USD", 3))
	advance(t, c, 1, came(2, 2, 1, line("51", "USD", -33), line("2", "USD", 22), line("50", "USD", 11)))
	post(t, c, even("c", 2, 1, "31", "2", "USD", 4))
	advance(t, c, 1, came(4, 2, 1, line("2", "EUR", 13), line("40", "EUR", -13)))
	post(t, c, even("d", 2, 1, "31", "2", "EUR", 1))
	advance(t, c, 1, came(6, 2, 1, line("2", "EUR", -14), line("4", "EUR", 14)))
	post(t, c, even("e", 2, 1, "31", "4", "EUR", 1))
	advance(t, c, 1)
	advance(t, c, 1,
		came(8, 2, 1, line("4", "EUR", -15), line("40", "EUR", 13), line("30", "EUR", 2)),
		came(9, 2, 1, line("50", "USD", -11), line("30", "USD", 11)))
}

// TestQ2UpTo: what is in earlier periods counts at each stage, what is in later ones does not.
func TestQ2UpTo(t *testing.T) {
	c := made(t)
	for i, amount := range []int{4, 40, 400} {
		post(t, c, even(fmt.Sprint("a", i), 1, 1+i, "31", "11", "EUR", amount))
		post(t, c, even(fmt.Sprint("b", i), 1, 1+i, "31", "100", "USD", amount))
		post(t, c, even(fmt.Sprint("c", i), 2, 1+i, "31", "101", "EUR", amount))
		post(t, c, even(fmt.Sprint("d", i), 2, 1+i, "2", "4", "EUR", amount))
	}
	told(t, "Plans", c.Plans([]api.Plan{{Ref: "p", Entity: 3, From: "11", To: "31", Cur: "EUR", Amount: 9, First: 2, Periods: 1}}), api.OK)
	advance(t, c, 1)
	advance(t, c, 1)
	advance(t, c, 1, came(12, 1, 1, line("100", "EUR", 2), line("40", "EUR", -2)))
	advance(t, c, 1)
	advance(t, c, 1)
	advance(t, c, 1, came(13, 1, 1, line("40", "EUR", 2), line("30", "EUR", -2)), came(14, 2, 1, line("4", "EUR", -4), line("30", "EUR", 4)))
	told(t, "Pools", c.Pools([]api.Pool{{Account: "11", Cur: "EUR", To: []string{"101"}, Weights: []int{1}}}), api.OK)
	told(t, "Pairs", c.Pairs([]api.Pair{{A: 2, B: 3, One: "101", Other: "101", Diff: "51"}}), api.OK)
	advance(t, c, 2, came(15, 3, 2, line("11", "EUR", 9), line("31", "EUR", -9)))
	advance(t, c, 2, came(16, 1, 2, line("11", "EUR", -44), line("101", "EUR", 44)), came(17, 3, 2, line("11", "EUR", -9), line("101", "EUR", 9)))
	advance(t, c, 2, came(18, 1, 2, line("100", "EUR", 9), line("40", "EUR", -9))) // 44 dollars are 11 now, of which 2 are there
	advance(t, c, 2, came(19, 2, 2, line("101", "EUR", -44), line("51", "EUR", 44)), came(20, 3, 2, line("101", "EUR", -9), line("51", "EUR", 9)))
	advance(t, c, 2)
	advance(t, c, 2,
		came(21, 1, 2, line("40", "EUR", 9), line("30", "EUR", -9)),
		came(22, 2, 2, line("4", "EUR", -40), line("51", "EUR", -44), line("30", "EUR", 84)),
		came(23, 3, 2, line("51", "EUR", -9), line("30", "EUR", 9)))
}

// TestQ2LedgerErrors: chapter 10's errors come first at each stage, of the balances up to the period alone.
func TestQ2LedgerErrors(t *testing.T) {
	for stage := api.Open; stage < api.Locked; stage++ {
		for _, n := range []int{api.MaxItems, api.MaxItems + 1, api.MaxItems + 2} {
			c := made(t)
			upTo(t, c, 1, stage)
			spread(t, c, n, "X", 1)
			switch {
			case n > api.MaxItems:
				stuck(t, c, 1, api.ErrFull)
			case stage == api.Allotted:
				stuck(t, c, 1, api.ErrNone) // there are no rates of them
			default:
				advance(t, c, 1)
			}
			c = made(t)
			upTo(t, c, 1, stage)
			spread(t, c, n, "X", 2) // of a later period
			advance(t, c, 1)
		}
	}
}

// TestQ2LedgerErrorsClosing: what comes to a Locked period by an earlier one may be more than chapter 10 takes.
func TestQ2LedgerErrorsClosing(t *testing.T) {
	for _, plans := range []int{1, 2} {
		c := made(t)
		upTo(t, c, 2, api.Paired)
		spread(t, c, api.MaxItems-2, "X", 2)
		advance(t, c, 2)
		var l []api.Plan
		for i := range plans {
			l = append(l, api.Plan{Ref: fmt.Sprint("p", i), Entity: 1 + i, From: "2", To: "31", Cur: "EUR", Amount: 9, First: 1, Periods: 1})
		}
		told(t, "Plans", c.Plans(l), api.OK)
		upTo(t, c, 1, api.Closed)
		if plans == 1 {
			advance(t, c, 2)
		} else {
			stuck(t, c, 2, api.ErrFull)
		}
	}
}

// TestQ2LedgerFirst: chapter 10's errors are told ahead of the stage's own.
func TestQ2LedgerFirst(t *testing.T) {
	own := map[int]api.Errno{api.Accrued: api.ErrRange, api.Allotted: api.ErrNone, api.Revalued: api.ErrRange} // by the stage that it is at
	for stage, err := range own {
		c := made(t)
		told(t, "Pools", c.Pools([]api.Pool{{Account: "101", Cur: "EUR", To: []string{"11"}, Weights: []int{1}}}), api.OK)
		told(t, "Pairs", c.Pairs([]api.Pair{{A: 1, B: 2, One: "101", Other: "101", Diff: "11"}}), api.OK)
		upTo(t, c, 1, stage)
		post(t, c, even("a", 1, 1, "31", "101", "EUR", big15))
		post(t, c, even("b", 1, 1, "31", "101", "EUR", big15))
		if stage == api.Allotted {
			post(t, c, even("c", 1, 1, "31", "101", "JPY", 1))
		}
		stuck(t, c, 1, err)
		spread(t, c, api.MaxItems-1, "X", 1)
		stuck(t, c, 1, api.ErrFull)
	}
}

// heap posts entries that bring ten times MaxAmount each to 101 of an entity.
func heap(t *testing.T, c *close.Close, n, entity, period int) {
	t.Helper()
	for i := range n {
		e := api.Entry{Ref: fmt.Sprint("h", i), Entity: entity, Period: period}
		for range api.MaxLines / 2 {
			e.Lines = append(e.Lines, line("101", "EUR", big15), line("31", "EUR", -big15))
		}
		if _, err := c.Post(e); err != nil {
			t.Fatalf("Post of %d: %v", i, err)
		}
	}
}

// TestQ2Heap: what chapter 10's Check says of balances is told by the stages that ask it.
func TestQ2Heap(t *testing.T) {
	for stage := api.Open; stage < api.Closed; stage++ {
		for _, n := range []int{100, 101} { // 10^18, and more
			c := made(t)
			upTo(t, c, 1, min(stage, api.Paired))
			heap(t, c, n, 12, 1)
			upTo(t, c, 1, stage)
			asks := stage >= api.Accrued && stage < api.Paired
			if n > 100 && asks {
				stuck(t, c, 1, api.ErrRange)
			} else {
				advance(t, c, 1)
			}
		}
	}
}

// TestQ2AllottedErrors: just at and just past MaxAmount, on either side.
func TestQ2AllottedErrors(t *testing.T) {
	for _, sign := range []int{1, -1} {
		for _, entity := range []int{1, 12} {
			c := made(t)
			told(t, "Pools", c.Pools([]api.Pool{goodPool()}), api.OK)
			post(t, c, even("a", entity, 1, "31", "100", "EUR", sign*big15))
			post(t, c, even("b", 2, 1, "31", "100", "EUR", 3))
			upTo(t, c, 1, api.Accrued)
			post(t, c, even("c", entity, 1, "31", "100", "EUR", sign))
			stuck(t, c, 1, api.ErrRange)
			post(t, c, even("d", entity, 1, "31", "100", "EUR", -sign))
			if n, err := c.Advance(1); n != 2 || err != nil {
				t.Errorf("Advance = %d, %v", n, err)
			}
		}
	}
}

// TestQ2RevaluedErrors: of entities in order, the first one's.
func TestQ2RevaluedErrors(t *testing.T) {
	rates := []api.Rate{
		{From: "USD", To: "EUR", Period: 1, Num: 1, Den: 1},
		{From: "JPY", To: "EUR", Period: 1, Num: 1, Den: api.MaxRatio},
	}
	faults := map[api.Errno]api.Entry{
		api.ErrNone:  even("", 0, 1, "31", "11", "GBP", 1), // no rate
		api.ErrOver:  even("", 0, 1, "31", "11", "JPY", big15),
		api.ErrRange: even("", 0, 1, "11", "100", "JPY", api.MaxRatio), // 10^18 of euros
		api.ErrClash: even("", 0, 1, "31", "2", "USD", 1),              // 2 is gain
	}
	for first, one := range faults {
		for second, other := range faults {
			for _, entities := range [][2]int{{1, 2}, {2, 12}, {3, 4}} {
				c, err := close.New(house(), rates, "EUR", "2", "30")
				if err != nil {
					t.Fatal(err)
				}
				post(t, c, even("right", 1, 1, "31", "100", "USD", 5))
				other.Ref, other.Entity = "other", entities[1]
				post(t, c, other)
				upTo(t, c, 1, api.Allotted)
				stuck(t, c, 1, second)
				one.Ref, one.Entity = "one", entities[0]
				post(t, c, one)
				stuck(t, c, 1, first)
			}
		}
	}
}

// TestQ2PairedErrors: just at and just past MaxAmount, on either side.
func TestQ2PairedErrors(t *testing.T) {
	for _, sign := range []int{1, -1} {
		c := made(t)
		told(t, "Pairs", c.Pairs([]api.Pair{goodPair(), {A: 3, B: 4, One: "100", Other: "11", Diff: "2"}}), api.OK)
		post(t, c, even("a", 4, 1, "31", "11", "EUR", sign*big15))
		post(t, c, even("b", 1, 1, "31", "101", "EUR", 3))
		upTo(t, c, 1, api.Revalued)
		post(t, c, even("c", 4, 1, "31", "11", "EUR", sign))
		stuck(t, c, 1, api.ErrRange)
		post(t, c, even("d", 4, 1, "31", "11", "EUR", -sign))
		advance(t, c, 1, came(4, 1, 1, line("101", "EUR", -3), line("31", "EUR", 3)), came(5, 4, 1, line("11", "EUR", -sign*big15), line("2", "EUR", sign*big15)))
	}
}

// TestQ2Full: just as many as MaxEntries in the end, and one more, at each stage; a chapter's error is told ahead of it.
func TestQ2Full(t *testing.T) {
	for stage := api.Open; stage <= api.Locked; stage++ {
		for _, room := range []int{1, 2, 3} {
			c := made(t)
			told(t, "Pools", c.Pools([]api.Pool{goodPool()}), api.OK)
			post(t, c, even("a", 1, 1, "4", "11", "EUR", 5))
			upTo(t, c, 1, min(stage, api.Paired))
			for _, entity := range []int{1, 2} { // each stage that brings anything brings two
				post(t, c, even(fmt.Sprint("b", entity), entity, 1, "31", "100", "EUR", 6))
				post(t, c, even(fmt.Sprint("c", entity), entity, 1, "31", "100", "USD", 6))
				post(t, c, even(fmt.Sprint("d", entity), entity, 1, "50", "11", "EUR", 6))
			}
			told(t, "Plans", c.Plans([]api.Plan{goodPlan(), {Ref: "p", Entity: 2, From: "50", To: "2", Cur: "EUR", Amount: 9, First: 1, Periods: 1}}), api.OK)
			told(t, "Pairs", c.Pairs([]api.Pair{{A: 1, B: 2, One: "11", Other: "11", Diff: "31"}}), api.OK)
			fill(t, c, api.MaxEntries-room, 1)
			upTo(t, c, 1, stage)
			n, err := 2, api.OK
			switch {
			case stage == api.Paired:
				n = 0
			case room < 2:
				n, err = 0, api.ErrFull
			}
			if err != api.OK {
				stuck(t, c, 1, err)
			} else if got, bad := c.Advance(1); got != n || bad != nil {
				t.Errorf("with room for %d at %d: %d, %v, want %d", room, stage, got, bad, n)
			}
		}
	}
	c := made(t)
	told(t, "Pools", c.Pools([]api.Pool{goodPool()}), api.OK)
	post(t, c, even("a", 1, 1, "31", "100", "EUR", 6))
	post(t, c, even("b", 2, 1, "31", "100", "EUR", big15))
	post(t, c, even("c", 2, 1, "31", "100", "EUR", 1))
	fill(t, c, api.MaxEntries, 1)
	upTo(t, c, 1, api.Accrued)
	stuck(t, c, 1, api.ErrRange)
}
