package close_test

import (
	"fmt"
	"slices"
	"strings"
	"testing"

	"quarterday/api"
	"quarterday/close"
	"quarterday/plain"
)

// unmade fails the test where New does not tell that error alone.
func unmade(t *testing.T, chart []api.Account, rates []api.Rate, base, gain, kept string, want api.Errno) {
	t.Helper()
	c, err := close.New(chart, rates, base, gain, kept)
	if plain.Told(err) != want || c != nil {
		t.Errorf("New of %s, %s, %q, %q, %q = %v, %v, want %v", short(chart), short(rates), base, gain, kept, c, err, want)
	}
}

func TestQ1New(t *testing.T) {
	for _, rates := range [][]api.Rate{nil, {}, worths()} {
		for _, base := range []string{"EUR", "USD", "AAA", "ZZZ"} {
			for _, gain := range []string{"100", "101", "11", "2", "30", "31", "4", "40", "50", "51"} {
				for _, kept := range []string{"30", "31"} { // kept and gain may be one
					c, err := close.New(house(), rates, base, gain, kept)
					if err != nil || c == nil {
						t.Errorf("New of %v, %q, %q, %q = %v, %v", rates, base, gain, kept, c, err)
						continue
					}
					if l := c.Entries(); len(l) != 0 {
						t.Errorf("there are %v at first", l)
					}
				}
			}
		}
	}
}

// wrongCharts are charts, and what is wrong with them.
func wrongCharts() []wrongChart {
	other := func(at int, change func(a *api.Account)) []api.Account {
		l := house()
		change(&l[at])
		return l
	}
	long := make([]api.Account, api.MaxChart+1)
	for i := range long {
		long[i] = api.Account{Code: fmt.Sprint(100 + i), Name: "a", Kind: api.Asset}
	}
	return []wrongChart{
		{long, api.ErrFull},
		{other(0, func(a *api.Account) { a.Code = "" }), api.ErrSyntax},
		{other(13, func(a *api.Account) { a.Name = strings.Repeat("a", 25) }), api.ErrSyntax},
		{other(13, func(a *api.Account) { a.Kind = 6 }), api.ErrRange},
		{other(6, func(a *api.Account) { a.Code = "2" }), api.ErrOrder},
		{other(2, func(a *api.Account) { a.Parent = "9" }), api.ErrNone},
		{other(12, func(a *api.Account) { a.Parent = "2" }), api.ErrKind},
	}
}

type wrongChart struct {
	c   []api.Account
	err api.Errno
}

// wrongRates are rates, and what is wrong with them.
func wrongRates() []wrongRate {
	other := func(change func(r *api.Rate)) []api.Rate {
		l := worths()
		change(&l[2])
		return l
	}
	long := make([]api.Rate, api.MaxRates+1)
	for i := range long {
		long[i] = api.Rate{From: "USD", To: "EUR", Period: 1 + i, Num: 1, Den: 1}
	}
	return []wrongRate{
		{long, api.ErrFull},
		{other(func(r *api.Rate) { r.From = "Gbp" }), api.ErrSyntax},
		{other(func(r *api.Rate) { r.To = "" }), api.ErrSyntax},
		{other(func(r *api.Rate) { r.To = "GBP" }), api.ErrShape},
		{other(func(r *api.Rate) { r.Period = 121 }), api.ErrRange},
		{other(func(r *api.Rate) { r.Num = 0 }), api.ErrRange},
		{other(func(r *api.Rate) { r.Den = api.MaxRatio + 1 }), api.ErrRange},
		{other(func(r *api.Rate) { r.From, r.To = "EUR", "USD" }), api.ErrClash},
	}
}

type wrongRate struct {
	l   []api.Rate
	err api.Errno
}

// TestQ1NewChart: what is wrong with a chart is told ahead of all else.
func TestQ1NewChart(t *testing.T) {
	for _, w := range wrongCharts() {
		unmade(t, w.c, worths(), "EUR", "40", "30", w.err)
		unmade(t, w.c, worths(), "", "", "", w.err)
		for _, r := range wrongRates() {
			unmade(t, w.c, r.l, "EUR", "40", "30", w.err)
			unmade(t, w.c, r.l, "eur", "9", "5", w.err)
		}
	}
}

// TestQ1NewRates: then what is wrong with rates.
func TestQ1NewRates(t *testing.T) {
	for _, w := range wrongRates() {
		for _, base := range []string{"EUR", "eur"} {
			for _, gain := range []string{"40", "9", "5"} {
				for _, kept := range []string{"30", "9", "5", "2"} {
					unmade(t, house(), w.l, base, gain, kept, w.err)
				}
			}
		}
	}
}

// TestQ1NewBase: then base.
func TestQ1NewBase(t *testing.T) {
	for _, base := range []string{"", "E", "EU", "EURO", "eur", "EUr", "E R", " EU", "EU1", "E\x00R", "@AA", "AA[", "ÄU", "\xff\xff\xff", "EUR\n"} {
		unmade(t, house(), worths(), base, "40", "30", api.ErrSyntax)
		unmade(t, house(), nil, base, "9", "30", api.ErrSyntax)
		unmade(t, house(), nil, base, "5", "2", api.ErrSyntax)
		unmade(t, nil, nil, base, "5", "2", api.ErrSyntax)
	}
}

// noAccounts are texts that are no account of house.
var noAccounts = []string{"", "0", "9", "01", "12", "1000", "52", "500", " 2", "2 ", "2\n", "2\x00", "-", "-2", "debts", "\xff", "٢"}

// TestQ1NewAccounts: then gain, then kept, that is no account, and no leaf; then kept's kind.
func TestQ1NewAccounts(t *testing.T) {
	keeps := slices.Concat(noAccounts, []string{"1", "5", "3", "30", "31", "2", "40"})
	for _, kept := range keeps {
		for _, gain := range noAccounts {
			unmade(t, house(), worths(), "EUR", gain, kept, api.ErrNone)
		}
		for _, gain := range []string{"1", "10", "3", "5"} {
			unmade(t, house(), worths(), "EUR", gain, kept, api.ErrKind)
		}
	}
	for _, gain := range []string{"40", "100", "30"} {
		for _, kept := range noAccounts {
			unmade(t, house(), worths(), "EUR", gain, kept, api.ErrNone)
		}
		for _, kept := range []string{"1", "10", "3", "5"} { // no leaf, 3 though of Equity
			unmade(t, house(), worths(), "EUR", gain, kept, api.ErrKind)
		}
		for _, kept := range []string{"100", "101", "11", "2", "4", "40", "50", "51"} { // of each other kind
			unmade(t, house(), worths(), "EUR", gain, kept, api.ErrKind)
		}
	}
	unmade(t, nil, nil, "EUR", "40", "30", api.ErrNone)
	unmade(t, house()[:5], nil, "EUR", "100", "30", api.ErrNone) // 30 is none of these
}

// TestQ1NewLeaf: whether it is a leaf hangs on the chart alone.
func TestQ1NewLeaf(t *testing.T) {
	c, err := close.New(house()[:7], nil, "EUR", "3", "3") // without 30 and 31
	if err != nil || c == nil {
		t.Errorf("New = %v, %v", c, err)
	}
	unmade(t, house()[:8], nil, "EUR", "2", "3", api.ErrKind)
}

// goodPlan, goodPool and goodPair are such that nothing is wrong with them.
func goodPlan() api.Plan {
	return api.Plan{Ref: "rent", Entity: 1, From: "50", To: "2", Cur: "EUR", Amount: 12, First: 1, Periods: 4}
}

func goodPool() api.Pool {
	return api.Pool{Account: "100", Cur: "EUR", To: []string{"101", "11"}, Weights: []int{2, 1}}
}

func goodPair() api.Pair {
	return api.Pair{A: 1, B: 2, One: "101", Other: "2", Diff: "31"}
}

// planFaults are plans with one that is wrong behind one that is right, and how.
func planFaults() []planFault {
	with := func(change func(p *api.Plan)) []api.Plan {
		p := goodPlan()
		p.Ref = "more"
		change(&p)
		return []api.Plan{goodPlan(), p}
	}
	return []planFault{
		{make([]api.Plan, api.MaxRules+1), api.ErrFull},
		{with(func(p *api.Plan) { p.Ref = "Rent" }), api.ErrSyntax},
		{with(func(p *api.Plan) { p.Ref = "rent" }), api.ErrClash},
		{with(func(p *api.Plan) { p.Entity = 13 }), api.ErrRange},
		{with(func(p *api.Plan) { p.Amount = 0 }), api.ErrRange},
		{with(func(p *api.Plan) { p.From = "9" }), api.ErrNone},
		{with(func(p *api.Plan) { p.To = "5" }), api.ErrKind},
		{with(func(p *api.Plan) { p.To = "50" }), api.ErrClash},
		{with(func(p *api.Plan) { p.Cur = "" }), api.ErrSyntax},
	}
}

type planFault struct {
	l   []api.Plan
	err api.Errno
}

// poolFaults are pools likewise.
func poolFaults() []poolFault {
	with := func(change func(p *api.Pool)) []api.Pool {
		p := goodPool()
		change(&p)
		return []api.Pool{goodPool(), p}
	}
	return []poolFault{
		{make([]api.Pool, api.MaxRules+1), api.ErrFull},
		{with(func(p *api.Pool) { p.Account = "9" }), api.ErrNone},
		{with(func(p *api.Pool) { p.Account = "5" }), api.ErrKind},
		{with(func(p *api.Pool) { p.Cur = "" }), api.ErrSyntax},
		{with(func(p *api.Pool) { p.To = nil }), api.ErrShape},
		{with(func(p *api.Pool) { p.To, p.Weights = make([]string, 20), make([]int, 20) }), api.ErrFull},
		{with(func(p *api.Pool) { p.To[1] = "101" }), api.ErrClash},
		{with(func(p *api.Pool) { p.Weights[1] = -1 }), api.ErrRange},
	}
}

type poolFault struct {
	l   []api.Pool
	err api.Errno
}

// pairFaults are pairs likewise.
func pairFaults() []pairFault {
	with := func(change func(p *api.Pair)) []api.Pair {
		p := api.Pair{A: 3, B: 4, One: "101", Other: "2", Diff: "31"}
		change(&p)
		return []api.Pair{goodPair(), p}
	}
	return []pairFault{
		{make([]api.Pair, api.MaxRules+1), api.ErrFull},
		{with(func(p *api.Pair) { p.A = 0 }), api.ErrRange},
		{with(func(p *api.Pair) { p.A = 4 }), api.ErrClash},
		{with(func(p *api.Pair) { p.One = "9" }), api.ErrNone},
		{with(func(p *api.Pair) { p.Other = "5" }), api.ErrKind},
		{with(func(p *api.Pair) { p.Diff = "2" }), api.ErrClash},
		{with(func(p *api.Pair) { p.A = 1 }), api.ErrClash},
	}
}

type pairFault struct {
	l   []api.Pair
	err api.Errno
}

// TestQ1NoneAtFirst: without plans, pools and pairs no stage brings anything.
func TestQ1NoneAtFirst(t *testing.T) {
	c := made(t)
	post(t, c, even("a", 1, 1, "31", "100", "EUR", 9))
	post(t, c, even("b", 2, 1, "31", "2", "EUR", 9))
	for stage := range api.Closed {
		if n, err := c.Advance(1); n != 0 || err != nil {
			t.Errorf("from %d: %d, %v", stage, n, err)
		}
	}
}

// TestQ1PlansCount: those that were handed in last count, but for those that have an error.
func TestQ1PlansCount(t *testing.T) {
	other := goodPlan()
	other.Ref, other.Amount = "other", 40
	for _, f := range planFaults() {
		c := made(t)
		told(t, "Plans", c.Plans(f.l), f.err)
		advance(t, c, 1) // none: there were none at first
		told(t, "Plans", c.Plans([]api.Plan{goodPlan()}), api.OK)
		told(t, "Plans", c.Plans(f.l), f.err)
		upTo(t, c, 1, api.Closed)
		advance(t, c, 2, came(0, 1, 2, line("50", "EUR", 3), line("2", "EUR", -3)))
		told(t, "Plans", c.Plans([]api.Plan{other, goodPlan()}), api.OK)
		told(t, "Plans", c.Plans(f.l), f.err)
		upTo(t, c, 2, api.Closed)
		n := len(c.Entries())
		advance(t, c, 3, came(n, 1, 3, line("50", "EUR", 10), line("2", "EUR", -10)), came(n+1, 1, 3, line("50", "EUR", 3), line("2", "EUR", -3)))
		told(t, "Plans", c.Plans(nil), api.OK)
		upTo(t, c, 3, api.Closed)
		advance(t, c, 4)
	}
}

// TestQ1PoolsCount: likewise.
func TestQ1PoolsCount(t *testing.T) {
	other := api.Pool{Account: "31", Cur: "EUR", To: []string{"2"}, Weights: []int{1}}
	for _, f := range poolFaults() {
		c := made(t)
		post(t, c, even("a", 1, 1, "31", "100", "EUR", 9))
		told(t, "Pools", c.Pools(f.l), f.err)
		upTo(t, c, 1, api.Closed)
		post(t, c, even("b", 1, 2, "31", "100", "EUR", 3))
		told(t, "Pools", c.Pools([]api.Pool{goodPool()}), api.OK)
		told(t, "Pools", c.Pools(f.l), f.err)
		upTo(t, c, 2, api.Accrued)
		advance(t, c, 2, came(2, 1, 2, line("100", "EUR", -12), line("101", "EUR", 8), line("11", "EUR", 4)))
		told(t, "Pools", c.Pools([]api.Pool{other}), api.OK)
		told(t, "Pools", c.Pools(f.l), f.err)
		upTo(t, c, 2, api.Closed)
		upTo(t, c, 3, api.Accrued)
		advance(t, c, 3, came(3, 1, 3, line("31", "EUR", 12), line("2", "EUR", -12)))
		told(t, "Pools", c.Pools([]api.Pool{}), api.OK)
		upTo(t, c, 3, api.Closed)
		upTo(t, c, 4, api.Accrued)
		advance(t, c, 4)
	}
}

// TestQ1PairsCount: likewise.
func TestQ1PairsCount(t *testing.T) {
	other := api.Pair{A: 3, B: 1, One: "2", Other: "31", Diff: "11"}
	for _, f := range pairFaults() {
		c := made(t)
		post(t, c, even("a", 1, 1, "100", "101", "EUR", 9))
		told(t, "Pairs", c.Pairs(f.l), f.err)
		upTo(t, c, 1, api.Closed)
		told(t, "Pairs", c.Pairs([]api.Pair{goodPair()}), api.OK)
		told(t, "Pairs", c.Pairs(f.l), f.err)
		upTo(t, c, 2, api.Revalued)
		advance(t, c, 2, came(1, 1, 2, line("101", "EUR", -9), line("31", "EUR", 9)))
		told(t, "Pairs", c.Pairs([]api.Pair{other}), api.OK)
		told(t, "Pairs", c.Pairs(f.l), f.err)
		upTo(t, c, 2, api.Closed)
		upTo(t, c, 3, api.Revalued)
		advance(t, c, 3, came(2, 1, 3, line("31", "EUR", -9), line("11", "EUR", 9)))
	}
}

// TestQ1EachByItself: plans, pools and pairs do not stand for each other, and change nothing else.
func TestQ1EachByItself(t *testing.T) {
	c := made(t)
	post(t, c, even("a", 1, 1, "31", "100", "EUR", 9))
	was := seen(c)
	told(t, "Plans", c.Plans([]api.Plan{goodPlan()}), api.OK)
	told(t, "Pools", c.Pools([]api.Pool{goodPool()}), api.OK)
	told(t, "Pairs", c.Pairs([]api.Pair{goodPair()}), api.OK)
	for _, f := range planFaults() {
		told(t, "Plans", c.Plans(f.l), f.err)
	}
	for _, f := range poolFaults() {
		told(t, "Pools", c.Pools(f.l), f.err)
	}
	for _, f := range pairFaults() {
		told(t, "Pairs", c.Pairs(f.l), f.err)
	}
	if is := seen(c); is != was {
		t.Errorf("it is %s now, was %s", is, was)
	}
	advance(t, c, 1, came(1, 1, 1, line("50", "EUR", 3), line("2", "EUR", -3)))
	advance(t, c, 1, came(2, 1, 1, line("100", "EUR", -9), line("101", "EUR", 6), line("11", "EUR", 3)))
	advance(t, c, 1)
	advance(t, c, 1, came(3, 1, 1, line("101", "EUR", -6), line("31", "EUR", 6)))
	advance(t, c, 1)
	advance(t, c, 1, came(4, 1, 1, line("50", "EUR", -3), line("30", "EUR", 3)))
}
