package close_test

import (
	"reflect"
	"slices"
	"testing"

	"quarterday/api"
	"quarterday/close"
)

// spoil writes into a list, and into what is behind it in its memory.
func spoil[T any](l []T, with T) {
	l = l[:cap(l)]
	for i := range l {
		l[i] = with
	}
}

// behind is a list that stands in memory with something else behind it.
func behind[T any](l []T, more ...T) (list, memory []T) {
	memory = append(slices.Clone(l), more...)
	return memory[:len(l)], memory
}

// handed is what is handed in, with something wrong behind each list, and all its memory.
type handed struct {
	chart, accounts []api.Account
	rates, worths   []api.Rate
	plans, parts    []api.Plan
	pools, given    []api.Pool
	to, codes       []string
	weights, shares []int
	pairs, owed     []api.Pair
	lines, moved    []api.Line
}

func hand() (h handed) {
	h.chart, h.accounts = behind(house(), api.Account{Code: "x"}, api.Account{Code: "7", Name: "more", Kind: api.Asset})
	h.rates, h.worths = behind(worths(), api.Rate{}, worths()[0])
	h.plans, h.parts = behind([]api.Plan{goodPlan()}, api.Plan{}, goodPlan())
	h.to, h.codes = behind([]string{"101", "11"}, "", "9")
	h.weights, h.shares = behind([]int{2, 1}, -1, 3)
	h.pools, h.given = behind([]api.Pool{{Account: "100", Cur: "EUR", To: h.to, Weights: h.weights}}, api.Pool{}, goodPool())
	h.pairs, h.owed = behind([]api.Pair{goodPair()}, api.Pair{}, goodPair())
	h.lines, h.moved = behind([]api.Line{line("100", "EUR", 9), line("31", "EUR", -9), line("100", "USD", 8), line("51", "USD", -8)}, api.Line{}, line("100", "EUR", 9))
	return h
}

// wipe writes into all that was handed in.
func wipe(h handed) {
	spoil(h.accounts, api.Account{})
	spoil(h.worths, api.Rate{})
	spoil(h.parts, api.Plan{})
	spoil(h.codes, "9")
	spoil(h.shares, -9)
	spoil(h.given, api.Pool{})
	spoil(h.owed, api.Pair{})
	spoil(h.moved, api.Line{})
}

// take hands all in.
func take(t *testing.T, h handed) *close.Close {
	t.Helper()
	c, err := close.New(h.chart, h.rates, "EUR", "40", "30")
	if err != nil {
		t.Fatal(err)
	}
	told(t, "Plans", c.Plans(h.plans), api.OK)
	told(t, "Pools", c.Pools(h.pools), api.OK)
	told(t, "Pairs", c.Pairs(h.pairs), api.OK)
	post(t, c, api.Entry{Ref: "a", Entity: 1, Period: 1, Lines: h.lines})
	return c
}

// closing is what the stages of period 1 bring of what was handed in.
func closing() [][]api.Entry {
	return [][]api.Entry{
		{came(1, 1, 1, line("50", "EUR", 3), line("2", "EUR", -3))},
		{came(2, 1, 1, line("100", "EUR", -9), line("101", "EUR", 6), line("11", "EUR", 3))},
		{came(3, 1, 1, line("100", "EUR", 4), line("40", "EUR", -4))},
		{came(4, 1, 1, line("101", "EUR", -6), line("31", "EUR", 6))},
		nil,
		{came(5, 1, 1, line("40", "EUR", 4), line("50", "EUR", -3), line("30", "EUR", -1)), came(6, 1, 1, line("51", "USD", 8), line("30", "USD", -8))},
	}
}

// TestQ1Q2HandedIn: lists are not written into nor kept, and what is behind them is not read.
func TestQ1Q2HandedIn(t *testing.T) {
	h := hand()
	c := take(t, h)
	if !reflect.DeepEqual(h, hand()) {
		t.Errorf("handed in is %v now, was %v", h, hand())
	}
	wipe(h)
	for _, want := range closing() {
		advance(t, c, 1, want...)
	}
	h = hand()
	c = take(t, h)
	for _, want := range closing() {
		advance(t, c, 1, want...)
	}
	if !reflect.DeepEqual(h, hand()) {
		t.Errorf("handed in is %v now, was %v", h, hand())
	}
}

// TestQ1Q2HandedInWrong: nor are they written into where there is an error; what is behind would be told.
func TestQ1Q2HandedInWrong(t *testing.T) {
	h := hand()
	unmade(t, h.accounts, h.rates, "EUR", "40", "30", api.ErrSyntax)
	unmade(t, h.chart, h.worths, "EUR", "40", "30", api.ErrSyntax)
	c := take(t, h)
	told(t, "Plans", c.Plans(h.parts), api.ErrSyntax)
	told(t, "Pools", c.Pools(h.given), api.ErrNone)
	told(t, "Pools", c.Pools([]api.Pool{{Account: "100", Cur: "EUR", To: h.codes, Weights: h.shares}}), api.ErrNone)
	told(t, "Pairs", c.Pairs(h.owed), api.ErrRange)
	refused(t, c, api.Entry{Ref: "b", Entity: 1, Period: 1, Lines: h.moved}, api.ErrNone)
	refused(t, c, api.Entry{Ref: "a", Entity: 1, Period: 1, Lines: h.lines}, api.ErrClash)
	if !reflect.DeepEqual(h, hand()) {
		t.Errorf("handed in is %v now, was %v", h, hand())
	}
	wipe(h)
	for _, want := range closing() {
		advance(t, c, 1, want...)
	}
}

// TestQ2Own: what Entries and Balances gave is the caller's own, no two lists of it share memory, and nothing that is written into it comes back.
func TestQ2Own(t *testing.T) {
	c := take(t, hand())
	for i, want := range closing() {
		all, again := c.Entries(), c.Entries()
		b, err := c.Balances(1)
		more, bad := c.Balances(1)
		if err != nil || bad != nil || !reflect.DeepEqual(all, again) || !reflect.DeepEqual(b, more) {
			t.Fatalf("at %d there are %v and %v, %v and %v", i, all, again, b, more)
		}
		was := seen(c)
		for j := range all {
			spoil(all[j].Lines, api.Line{Account: "9", Cur: "9", Amount: 9})
			all[j].Lines = slices.Clone(again[j].Lines)
			if !reflect.DeepEqual(all, again) {
				t.Errorf("at %d others than %d are %v now", i, j, all)
			}
		}
		spoil(all, api.Entry{})
		spoil(b, api.Balance{})
		if is := seen(c); is != was || !reflect.DeepEqual(c.Entries(), again) {
			t.Errorf("at %d it is %s now, was %s", i, is, was)
		}
		if got, err := c.Balances(1); err != nil || !reflect.DeepEqual(got, more) {
			t.Errorf("at %d Balances are %v, %v now, were %v", i, got, err, more)
		}
		for _, e := range again {
			spoil(e.Lines, api.Line{})
		}
		advance(t, c, 1, want...)
	}
}

// TestQ1Apart: what is done to one is not done to another one of the same lists.
func TestQ1Apart(t *testing.T) {
	h := hand()
	c, other := take(t, h), take(t, h)
	was := seen(other)
	told(t, "Plans", c.Plans(nil), api.OK)
	told(t, "Pools", c.Pools(nil), api.OK)
	told(t, "Pairs", c.Pairs(nil), api.OK)
	post(t, c, sale("b", 1))
	upTo(t, c, 1, api.Closed)
	if is := seen(other); is != was {
		t.Errorf("the other one is %s now, was %s", is, was)
	}
	for _, want := range closing() {
		advance(t, other, 1, want...)
	}
}
