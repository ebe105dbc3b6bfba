package close_test

import (
	"fmt"
	"math"
	"reflect"
	"testing"

	"quarterday/api"
	"quarterday/close"
	"quarterday/plain"
)

const (
	most  = math.MaxInt
	least = math.MinInt
	big15 = api.MaxAmount
)

// house is a chart in which 1, 10, 3 and 5 are no leaves.
func house() []api.Account {
	return []api.Account{
		{Code: "1", Name: "assets", Kind: api.Asset},
		{Code: "10", Name: "cash", Kind: api.Asset, Parent: "1", Money: true},
		{Code: "100", Name: "till-1", Kind: api.Asset, Parent: "10", Money: true},
		{Code: "101", Name: "till-2", Kind: api.Asset, Parent: "10"},
		{Code: "11", Name: "owed", Kind: api.Asset, Parent: "1"},
		{Code: "2", Name: "debts", Kind: api.Liability, Money: true},
		{Code: "3", Name: "own", Kind: api.Equity},
		{Code: "30", Name: "kept", Kind: api.Equity, Parent: "3"},
		{Code: "31", Name: "paid-in", Kind: api.Equity, Parent: "3"},
		{Code: "4", Name: "sales", Kind: api.Income},
		{Code: "40", Name: "gain", Kind: api.Income},
		{Code: "5", Name: "costs", Kind: api.Expense},
		{Code: "50", Name: "rent", Kind: api.Expense, Parent: "5"},
		{Code: "51", Name: "pay", Kind: api.Expense, Parent: "5"},
	}
}

// wide is house with 30 accounts of Expense more, from 600 on.
func wide() []api.Account {
	l := house()
	for i := range 30 {
		l = append(l, api.Account{Code: fmt.Sprint(600 + i), Name: "more", Kind: api.Expense})
	}
	return l
}

// worths are rates: 2 dollars are 1 euro in period 1, then 4.
func worths() []api.Rate {
	return []api.Rate{
		{From: "USD", To: "EUR", Period: 1, Num: 2, Den: 1},
		{From: "USD", To: "EUR", Period: 2, Num: 4, Den: 1},
		{From: "GBP", To: "EUR", Period: 2, Num: 1, Den: 3},
	}
}

// of makes one of a chart, with euros, gains in 40, and what is kept in 30.
func of(t *testing.T, chart []api.Account) *close.Close {
	t.Helper()
	c, err := close.New(chart, worths(), "EUR", "40", "30")
	if err != nil || c == nil {
		t.Fatalf("New = %v, %v", c, err)
	}
	return c
}

// made makes one of house.
func made(t *testing.T) *close.Close {
	t.Helper()
	return of(t, house())
}

// short is as much of a list as is worth telling.
func short(l any) string {
	return fmt.Sprintf("%.600s", fmt.Sprint(l))
}

// told fails the test where an error is not the one that is wanted.
func told(t *testing.T, what string, err error, want api.Errno) {
	t.Helper()
	if got := plain.Told(err); got != want {
		t.Errorf("%s: error %v, want %v", what, got, want)
	}
}

// seen is all that can be told by calls that change nothing.
func seen(c *close.Close) (s string) {
	s = fmt.Sprintln(c.Entries())
	for period := -1; period <= api.MaxPeriod+1; period++ {
		b, err := c.Balances(period)
		s += fmt.Sprintln(period, c.Stage(period), b, plain.Told(err))
	}
	return s
}

// line makes one.
func line(account, cur string, amount int) api.Line {
	return api.Line{Account: account, Cur: cur, Amount: amount}
}

// even makes an entry by which an amount goes from an account to another one.
func even(ref string, entity, period int, from, to, cur string, amount int) api.Entry {
	return api.Entry{Ref: ref, Entity: entity, Period: period, Lines: []api.Line{line(to, cur, amount), line(from, cur, -amount)}}
}

// came is an entry that a stage brings.
func came(number, entity, period int, lines ...api.Line) api.Entry {
	return api.Entry{Ref: fmt.Sprint("-", number), Entity: entity, Period: period, Lines: lines}
}

// post takes an entry in, which has to get the next number, and to stand there.
func post(t *testing.T, c *close.Close, e api.Entry) {
	t.Helper()
	ahead := c.Entries()
	n, err := c.Post(e)
	if err != nil || n != len(ahead) {
		t.Errorf("Post of %s = %d, %v, want %d", short(e), n, err, len(ahead))
	}
	if got := c.Entries(); !reflect.DeepEqual(got, append(ahead, e)) {
		t.Errorf("there are %s behind Post of %s", short(got), short(e))
	}
}

// advance brings a period one stage further, which has to bring just those entries.
func advance(t *testing.T, c *close.Close, period int, want ...api.Entry) {
	t.Helper()
	ahead, stage := c.Entries(), c.Stage(period)
	n, err := c.Advance(period)
	if err != nil || n != len(want) {
		t.Errorf("Advance of %d from %d = %d, %v, want %d", period, stage, n, err, len(want))
	}
	if got := c.Stage(period); got != stage+1 {
		t.Errorf("Stage of %d is %d, was %d", period, got, stage)
	}
	all := append(ahead, want...)
	if got := c.Entries(); len(got) != len(all) || len(all) > 0 && !reflect.DeepEqual(got, all) {
		t.Errorf("there are %s behind Advance of %d from %d, want %s behind %d", short(got[min(len(ahead), len(got)):]), period, stage, short(want), len(ahead))
	}
}

// upTo brings a period to a stage, whatever that brings.
func upTo(t *testing.T, c *close.Close, period, stage int) {
	t.Helper()
	for c.Stage(period) < stage {
		if n, err := c.Advance(period); err != nil {
			t.Fatalf("Advance of %d from %d = %d, %v", period, c.Stage(period), n, err)
		}
	}
}

// stuck fails the test where Advance does not tell that error, or where anything is another one behind it.
func stuck(t *testing.T, c *close.Close, period int, want api.Errno) {
	t.Helper()
	was := seen(c)
	n, err := c.Advance(period)
	if plain.Told(err) != want || n != 0 {
		t.Errorf("Advance of %d from %d = %d, %v, want %v", period, c.Stage(period), n, err, want)
	}
	if is := seen(c); is != was {
		t.Errorf("behind an error it is %s now, was %s", short(is), short(was))
	}
}

// refused fails the test where Post does not tell that error, or where anything is another one behind it.
func refused(t *testing.T, c *close.Close, e api.Entry, want api.Errno) {
	t.Helper()
	was := seen(c)
	n, err := c.Post(e)
	if plain.Told(err) != want || n != 0 {
		t.Errorf("Post of %s = %d, %v, want %v", short(e), n, err, want)
	}
	if is := seen(c); is != was {
		t.Errorf("behind an error it is %s now, was %s", short(is), short(was))
	}
}
