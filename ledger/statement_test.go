package ledger_test

import (
	"fmt"
	"slices"
	"testing"

	"quarterday/api"
	"quarterday/ledger"
	"quarterday/plain"
)

// house is a chart in which accounts are under others, also over two steps.
func house() []api.Account {
	return []api.Account{
		{Code: "1", Name: "assets", Kind: api.Asset},
		{Code: "10", Name: "cash", Kind: api.Asset, Parent: "1", Money: true},
		{Code: "100", Name: "till", Kind: api.Asset, Parent: "10", Money: true},
		{Code: "11", Name: "owed", Kind: api.Asset, Parent: "1"},
		{Code: "2", Name: "debts", Kind: api.Liability},
		{Code: "4", Name: "sales", Kind: api.Income},
	}
}

// statement fails the test where Statement is not what is wanted.
func statement(t *testing.T, c []api.Account, l []api.Balance, entity int, cur string, want ...int) {
	t.Helper()
	got, err := ledger.Statement(c, l, entity, cur)
	if err != nil || !slices.Equal(got, want) {
		t.Errorf("Statement of %.300v of %d, %q = %v, %v, want %v", l, entity, cur, got, err, want)
	}
}

// noStatement fails the test where Statement does not tell that error alone.
func noStatement(t *testing.T, c []api.Account, l []api.Balance, entity int, cur string, want api.Errno) {
	t.Helper()
	got, err := ledger.Statement(c, l, entity, cur)
	if plain.Told(err) != want || len(got) != 0 {
		t.Errorf("Statement of %.300v of %d, %q = %v, %v, want %v alone", l, entity, cur, got, err, want)
	}
}

func TestG2Statement(t *testing.T) {
	l := []api.Balance{
		bal(1, "1", "EUR", 1), bal(1, "10", "EUR", 20), bal(1, "10", "USD", -3), bal(1, "100", "EUR", 300), bal(1, "11", "EUR", 4000), bal(1, "2", "EUR", -50000), bal(1, "4", "EUR", 600000),
		bal(2, "100", "USD", 7), bal(2, "2", "EUR", 8), bal(2, "2", "USD", -7),
	}
	statement(t, house(), l, 1, "EUR", 4321, 320, 300, 4000, -50000, 600000)
	statement(t, house(), l, 1, "USD", -3, -3, 0, 0, 0, 0)
	statement(t, house(), l, 2, "USD", 7, 7, 7, 0, -7, 0) // what is under it, over two steps
	statement(t, house(), l, 2, "EUR", 0, 0, 0, 0, 8, 0)
	for _, none := range []struct {
		entity int
		cur    string
	}{{3, "EUR"}, {0, "EUR"}, {-1, "EUR"}, {most, "EUR"}, {least, "EUR"}, {1, "GBP"}, {1, ""}, {0, ""}, {1, "eur"}, {1, "EU"}, {1, "EURO"}, {1, "\xff"}} {
		statement(t, house(), l, none.entity, none.cur, 0, 0, 0, 0, 0, 0)
	}
	statement(t, house(), nil, 1, "EUR", 0, 0, 0, 0, 0, 0)
	statement(t, nil, nil, 1, "EUR")
	statement(t, []api.Account{}, []api.Balance{}, 0, "")
}

// TestG2StatementAnyEntity: entity and currency are what balances have, whatever that is.
func TestG2StatementAnyEntity(t *testing.T) {
	l := []api.Balance{bal(least, "2", "EUR", 1), bal(0, "2", "", 2), bal(13, "2", "euro", 3), bal(most, "2", "\xff", 4)}
	for _, b := range l {
		statement(t, house(), l, b.Entity, b.Cur, 0, 0, 0, 0, b.Amount, 0)
	}
}

// TestG2StatementNone: an account that is none, of that entity and currency, and of others.
func TestG2StatementNone(t *testing.T) {
	for _, code := range []string{"", "-", "0", "3", "01", "1 ", "101", "1000", "9", "assets", "\xff"} {
		bad := bal(2, code, "EUR", 5)
		for _, l := range [][]api.Balance{
			{bad},
			{bal(1, "2", "EUR", 1), bad, bal(3, "2", "EUR", 1)},
		} {
			noStatement(t, house(), l, 2, "EUR", api.ErrNone)
			noStatement(t, nil, l, 2, "EUR", api.ErrNone)
			statement(t, house(), l, 2, "USD", 0, 0, 0, 0, 0, 0) // of another currency
			statement(t, house(), l, 4, "EUR", 0, 0, 0, 0, 0, 0) // of another entity
			statement(t, nil, l, 4, "EUR")
		}
		statement(t, house(), []api.Balance{bal(1, "2", "EUR", 1), bad}, 1, "EUR", 0, 0, 0, 0, 1, 0)
	}
	many := []api.Balance{bal(1, "1", "EUR", 1), bal(1, "10", "EUR", 1), bal(1, "2", "EUR", 1), bal(1, "3", "EUR", 1), bal(1, "4", "EUR", 1)}
	noStatement(t, house(), many, 1, "EUR", api.ErrNone)
}

// wrongCharts has each error of chapter 3's Check.
func wrongCharts() map[api.Errno][]api.Account {
	with := func(a api.Account) []api.Account { return append(house(), a) }
	return map[api.Errno][]api.Account{
		api.ErrFull:   make([]api.Account, api.MaxChart+1),
		api.ErrSyntax: with(api.Account{Code: "x", Name: "a", Kind: 1}),
		api.ErrRange:  with(api.Account{Code: "5", Name: "a", Kind: 6}),
		api.ErrOrder:  with(api.Account{Code: "4", Name: "a", Kind: 1}),
		api.ErrNone:   with(api.Account{Code: "5", Name: "a", Kind: 1, Parent: "3"}),
		api.ErrKind:   with(api.Account{Code: "5", Name: "a", Kind: 1, Parent: "4"}),
	}
}

// TestG2StatementWrong: the chart's errors first, then those of the balances, then an account that is none, then sums.
func TestG2StatementWrong(t *testing.T) {
	for want, c := range wrongCharts() {
		for _, l := range [][]api.Balance{nil, rising(1), {bal(1, "3", "EUR", 1)}} {
			noStatement(t, c, l, 1, "EUR", want)
			noStatement(t, c, l, 9, "", want)
		}
		for _, l := range wrongBalances() {
			noStatement(t, c, l, 1, "EUR", want)
		}
	}
	for want, l := range wrongBalances() {
		for _, c := range [][]api.Account{nil, house()} {
			noStatement(t, c, l, 1, "EUR", want)
			noStatement(t, c, l, 9, "", want) // also where none of them is asked for
		}
	}
	noStatement(t, house(), []api.Balance{bal(1, "3", "EUR", 1), bal(1, "4", "EUR", 0)}, 1, "EUR", api.ErrShape) // behind an account that is none
}

// wide is a chart of n accounts, of which all but the first are under it.
func wide(n int) []api.Account {
	l := []api.Account{{Code: "1", Name: "all", Kind: api.Asset}}
	for i := range n - 1 {
		l = append(l, api.Account{Code: fmt.Sprint(100 + i), Name: "a", Kind: api.Asset, Parent: "1"})
	}
	return l
}

// ofAll are balances of all accounts of a chart.
func ofAll(c []api.Account, amount int) (l []api.Balance) {
	for _, a := range c {
		l = append(l, bal(1, a.Code, "EUR", amount))
	}
	return l
}

// TestG2StatementOver: sums just at the edge of 64 bits, and past it.
func TestG2StatementOver(t *testing.T) {
	for _, n := range []int{2, 9, 10, 11, 19, 20, api.MaxChart} {
		for _, amount := range []int{big18, -big18} {
			c := wide(n)
			if n > 9 {
				noStatement(t, c, ofAll(c, amount), 1, "EUR", api.ErrOver)
				continue
			}
			statement(t, c, ofAll(c, amount), 1, "EUR", append([]int{n * amount}, slices.Repeat([]int{amount}, n-1)...)...)
		}
	}
	c := wide(10)
	for last, want := range map[int]api.Errno{most - 9*big18: api.OK, most - 9*big18 + 1: api.ErrOver} {
		l := ofAll(c, big18)
		l[9].Amount = last
		if want != api.OK {
			noStatement(t, c, l, 1, "EUR", want)
			noStatement(t, c[:9], l, 1, "EUR", api.ErrNone)                                 // named ahead
			noStatement(t, c, append(l, bal(1, "2", "EUR", 1)), 1, "EUR", api.ErrNone)      // likewise
			noStatement(t, c, append(l, bal(1, "2", "EUR", 0)), 1, "EUR", api.ErrShape)     // likewise
			statement(t, c, append(l, bal(1, "2", "USD", 1)), 2, "EUR", make([]int, 10)...) // of no one that is asked for
			continue
		}
		got, err := ledger.Statement(c, l, 1, "EUR")
		if err != nil || len(got) != 10 || got[0] != most || got[9] != last {
			t.Errorf("Statement = %v, %v", got, err)
		}
	}
	l := ofAll(c, -big18)
	l[9].Amount = least + 9*big18
	if got, err := ledger.Statement(c, l, 1, "EUR"); err != nil || got[0] != least {
		t.Errorf("Statement = %v, %v", got, err)
	}
	l[9].Amount--
	noStatement(t, c, l, 1, "EUR", api.ErrOver)
	c, l = wide(api.MaxChart), nil // what is between may be of more than 64 bits
	for i, a := range c {
		l = append(l, bal(1, a.Code, "EUR", big18*(1-i/30*2)))
	}
	if got, err := ledger.Statement(c, l, 1, "EUR"); err != nil || got[0] != 0 || got[59] != -big18 {
		t.Errorf("Statement = %v, %v", got, err)
	}
}

// TestG2StatementFull: as many accounts and balances as may be.
func TestG2StatementFull(t *testing.T) {
	c := wide(api.MaxChart)
	var l []api.Balance
	for entity := range 3 {
		for _, b := range ofAll(c, 1) {
			b.Entity = entity
			l = append(l, b)
		}
	}
	for i := range 20 {
		l = append(l, bal(3, fmt.Sprint(200+i), "EUR", 1))
	}
	if len(l) != api.MaxItems {
		t.Fatal(len(l))
	}
	for entity := range 3 {
		statement(t, c, l, entity, "EUR", append([]int{api.MaxChart}, slices.Repeat([]int{1}, api.MaxChart-1)...)...)
	}
	noStatement(t, c, l, 3, "EUR", api.ErrNone)
}
