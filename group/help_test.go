package group_test

import (
	"fmt"
	"math"
	"slices"
	"strings"
	"testing"

	"quarterday/api"
	"quarterday/group"
	"quarterday/plain"
)

const (
	most  = math.MaxInt
	least = math.MinInt
	big9  = api.MaxRatio
	big18 = 1_000_000_000_000_000_000 // of a balance
)

// has makes a holding.
func has(entity, of, part int) api.Holding {
	return api.Holding{Entity: entity, Of: of, Part: part}
}

// holdings are n of them, up to 66, each of other two entities, with which nothing is wrong up to MaxRules.
func holdings(n int) (l []api.Holding) {
	for of := 12; of > 1; of-- {
		for entity := 1; entity < of && len(l) < n; entity++ {
			l = append(l, has(entity, of, 90))
		}
	}
	return l
}

// bal makes a balance.
func bal(entity int, account, cur string, amount int) api.Balance {
	return api.Balance{Entity: entity, Account: account, Cur: cur, Amount: amount}
}

// eur makes a balance in euros.
func eur(entity int, account string, amount int) api.Balance {
	return bal(entity, account, "EUR", amount)
}

// one makes a rate.
func one(from, to string, period, num, den int) api.Rate {
	return api.Rate{From: from, To: to, Period: period, Num: num, Den: den}
}

// market has in period 2: 2 USD, and 2 CHF, are 1 EUR; 1 GBP is 3 EUR, turned round; one BIG, and one GRT, are as many EUR as may be, and one EUR as many SML; JPY has a rate with USD alone; NOK has none.
func market() []api.Rate {
	return []api.Rate{
		one("USD", "EUR", 2, 2, 1),
		one("CHF", "EUR", 2, 2, 1),
		one("EUR", "GBP", 2, 3, 1),
		one("BIG", "EUR", 2, 1, big9),
		one("GRT", "EUR", 2, 1, big9),
		one("EUR", "SML", 2, 1, big9),
		one("JPY", "USD", 2, 1, 1),
		one("USD", "EUR", 3, 1, 7),
		one("EUR", "JPY", 3, 1, 7),
	}
}

// house is a chart of several layers.
func house() []api.Account {
	return []api.Account{
		{Code: "1", Name: "assets", Kind: api.Asset},
		{Code: "10", Name: "cash", Kind: api.Asset, Parent: "1", Money: true},
		{Code: "100", Name: "till-1", Kind: api.Asset, Parent: "10", Money: true},
		{Code: "101", Name: "till-2", Kind: api.Asset, Parent: "10"},
		{Code: "11", Name: "owed", Kind: api.Asset, Parent: "1"},
		{Code: "2", Name: "debts", Kind: api.Liability, Money: true},
		{Code: "3", Name: "kept", Kind: api.Equity},
		{Code: "4", Name: "sales", Kind: api.Income},
		{Code: "5", Name: "costs", Kind: api.Expense},
		{Code: "500000", Name: "rent", Kind: api.Expense, Parent: "5"},
	}
}

// places are where house's accounts stand.
var places = map[string]int{"1": 0, "10": 1, "100": 2, "101": 3, "11": 4, "2": 5, "3": 6, "4": 7, "5": 8, "500000": 9}

// sums are those of house's accounts that are not 0.
type sums map[string]int

// list has them all, in the accounts' order.
func (s sums) list() []int {
	l := make([]int, len(places))
	for code, n := range s {
		l[places[code]] = n
	}
	return l
}

// short is as much of a list as is worth telling.
func short(l any) string {
	return fmt.Sprintf("%.300s", fmt.Sprint(l))
}

// wrongCharts are charts with which something is wrong, each kind that chapter 3 has.
func wrongCharts() [][]api.Account {
	other := func(at int, change func(a *api.Account)) []api.Account {
		l := house()
		change(&l[at])
		return l
	}
	long := make([]api.Account, api.MaxChart+1)
	for i := range long {
		long[i] = api.Account{Code: fmt.Sprint(100 + i), Name: "a", Kind: api.Asset}
	}
	return [][]api.Account{
		long,
		other(0, func(a *api.Account) { a.Code = "" }),
		other(6, func(a *api.Account) { a.Name = strings.Repeat("a", 25) }),
		other(9, func(a *api.Account) { a.Kind = 6 }),
		other(6, func(a *api.Account) { a.Code = "2" }),
		other(2, func(a *api.Account) { a.Parent = "9" }),
		other(9, func(a *api.Account) { a.Parent = "2" }),
	}
}

// wrongBalances are such that something is wrong with them, each kind that chapter 10 has.
func wrongBalances() [][]api.Balance {
	long := make([]api.Balance, api.MaxItems+1)
	for i := range long {
		long[i] = eur(i, "10", 7)
	}
	return [][]api.Balance{
		long,
		{eur(1, "10", 7), eur(1, "10", 7)},
		{bal(1, "10", "USD", 7), eur(1, "10", 7)},
		{bal(9, "10", "USD", 7), bal(8, "10", "USD", 7)},
		{eur(1, "10", 7), eur(2, "3", big18+1)},
		{eur(1, "10", -big18-1)},
		{eur(1, "10", 7), eur(9, "10", 0)},
		{bal(1, "10", "NOK", 7), eur(1, "12", 0)}, // ahead of what Convert says of the one ahead
	}
}

// wrongRates are such that something is wrong with them, each kind that chapter 2 has.
func wrongRates() [][]api.Rate {
	var long []api.Rate
	for i := range api.MaxRates + 1 {
		long = append(long, one("AAA", "EUR", 1+i, 1, 1))
	}
	return [][]api.Rate{
		long,
		{one("EUR", "usd", 1, 1, 1)},
		{one("EUR", "EUR", 1, 1, 1)},
		{one("EUR", "USD", 121, 1, 1)},
		{one("EUR", "USD", 1, 0, 1)},
		append(market(), one("EUR", "USD", 2, 1, 1)),
		append(market(), one("AAA", "BBB", 120, 1, big9+1)), // one that no balance needs
	}
}

// wrongHoldings are such that something is wrong with them, each kind that chapter 17 has, and which.
func wrongHoldings() map[api.Errno][]api.Holding {
	return map[api.Errno][]api.Holding{
		api.ErrFull:  holdings(api.MaxRules + 1),
		api.ErrRange: {has(1, 2, 0)},
		api.ErrClash: {has(1, 2, 5), has(1, 2, 6)},
		api.ErrSum:   {has(1, 2, 1), has(3, 2, 1000)},
		api.ErrOrder: {has(1, 2, 5), has(2, 1, 6)},
	}
}

// unwhole fails the test where Whole does not tell that error alone.
func unwhole(t *testing.T, c []api.Account, rates []api.Rate, base string, l []api.Holding, top int, b []api.Balance, period int, want api.Errno) {
	t.Helper()
	all, others, err := group.Whole(c, rates, base, l, top, b, period)
	if plain.Told(err) != want || len(all) != 0 || len(others) != 0 {
		t.Errorf("Whole in %q of %s of top %d by %s in %d = %v, %v, %v, want %v alone", base, short(b), top, short(l), period, all, others, err, want)
	}
}

// unparted fails the test where Parts, and Whole with whatever behind, do not tell that error alone.
func unparted(t *testing.T, l []api.Holding, top int, want api.Errno) {
	t.Helper()
	got, err := group.Parts(l, top)
	if plain.Told(err) != want || len(got) != 0 {
		t.Errorf("Parts of %d by %s = %v, %v, want %v alone", top, short(l), got, err, want)
	}
	unwhole(t, house(), market(), "EUR", l, top, nil, 2, want)
	unwhole(t, house(), wrongRates()[1], "", l, top, wrongBalances()[1], 0, want)
	unwhole(t, nil, nil, "EUR", l, top, []api.Balance{bal(1, "9", "NOK", 1)}, 2, want)
}

// told fails the test where Check does not say that of holdings, or where Parts, of whatever top, does not.
func told(t *testing.T, l []api.Holding, want api.Errno) {
	t.Helper()
	if got := plain.Told(group.Check(l)); got != want {
		t.Errorf("Check of %s = %v, want %v", short(l), got, want)
	}
	if want != api.OK {
		for _, top := range []int{1, 2, 12, 0, 13, least} {
			unparted(t, l, top, want)
		}
		return
	}
	for top := 1; top <= api.MaxEntity; top++ {
		if got, err := group.Parts(l, top); err != nil || len(got) != api.MaxEntity || got[top-1] != 1000 {
			t.Errorf("Parts of %d by %s = %v, %v", top, short(l), got, err)
		}
	}
	unparted(t, l, 0, api.ErrRange)
}

// turned has a list, the same backwards, and with each one in turn first.
func turned[T any](l []T) [][]T {
	back := slices.Clone(l)
	slices.Reverse(back)
	all := [][]T{l, back}
	for i := range l {
		all = append(all, slices.Concat(l[i:], l[:i]))
	}
	return all
}
