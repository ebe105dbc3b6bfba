package revalue_test

import (
	"fmt"
	"math"
	"slices"
	"testing"

	"quarterday/api"
	"quarterday/ledger"
	"quarterday/plain"
	"quarterday/rate"
	"quarterday/revalue"
)

const (
	most  = math.MaxInt
	least = math.MinInt
	big9  = api.MaxRatio
	big15 = api.MaxAmount
	big18 = 1_000_000_000_000_000_000 // of a balance
)

// one makes a rate.
func one(from, to string, period, num, den int) api.Rate {
	return api.Rate{From: from, To: to, Period: period, Num: num, Den: den}
}

// bal makes a balance.
func bal(entity int, account, cur string, amount int) api.Balance {
	return api.Balance{Entity: entity, Account: account, Cur: cur, Amount: amount}
}

// market has in period 2: 2 USD are 1 EUR; 1 GBP is 3 EUR, turned round; one BIG is as many EUR as may be, and one EUR as many SML; JPY has a rate with USD alone; NOK has none.
func market() []api.Rate {
	return []api.Rate{
		one("USD", "EUR", 2, 2, 1),
		one("EUR", "GBP", 2, 3, 1),
		one("BIG", "EUR", 2, 1, big9),
		one("EUR", "SML", 2, 1, big9),
		one("JPY", "USD", 2, 1, 1),
		one("USD", "EUR", 3, 1, 7),
		one("EUR", "JPY", 3, 1, 7),
	}
}

// short is as much of a list as is worth telling.
func short(l any) string {
	return fmt.Sprintf("%.300s", fmt.Sprint(l))
}

// worth fails the test where Worth in euros of entity 1 in period 2, at market's rates, is not what is wanted.
func worth(t *testing.T, b []api.Balance, want ...int) {
	t.Helper()
	got, err := revalue.Worth(market(), "EUR", b, 1, 2)
	if err != nil || !slices.Equal(got, want) {
		t.Errorf("Worth of %s = %s, %v, want %s", short(b), short(got), err, short(want))
	}
}

// unworth fails the test where Worth, and Entries of a chart with which nothing is wrong, do not tell that error alone, whatever gain is.
func unworth(t *testing.T, l []api.Rate, base string, b []api.Balance, entity, period int, want api.Errno) {
	t.Helper()
	got, err := revalue.Worth(l, base, b, entity, period)
	if plain.Told(err) != want || len(got) != 0 {
		t.Errorf("Worth of %s in %q of %d in %d by %s = %s, %v, want %v alone", short(b), base, entity, period, short(l), short(got), err, want)
	}
	for _, gain := range []string{"4", "1", "9"} {
		refused(t, house(), l, base, gain, b, entity, period, want)
	}
}

func TestV1NoBalance(t *testing.T) {
	worth(t, nil)
	worth(t, []api.Balance{})
	if got, err := revalue.Worth(nil, "EUR", nil, 12, 120); err != nil || len(got) != 0 {
		t.Errorf("Worth of nothing = %v, %v", got, err)
	}
}

// TestV1Base: a balance of base itself is worth what it is, with no rate too.
func TestV1Base(t *testing.T) {
	for _, n := range []int{1, -1, 7, big18, -big18} {
		worth(t, []api.Balance{bal(1, "10", "EUR", n)}, n)
		for _, base := range []string{"EUR", "AAA", "ZZZ"} {
			got, err := revalue.Worth(nil, base, []api.Balance{bal(5, "", base, n)}, 5, 1)
			if err != nil || !slices.Equal(got, []int{n}) {
				t.Errorf("Worth of %d %s = %v, %v", n, base, got, err)
			}
		}
	}
}

// TestV1Rates: a rate of just both, and one turned round.
func TestV1Rates(t *testing.T) {
	worth(t, []api.Balance{bal(1, "10", "USD", 10)}, 5)
	worth(t, []api.Balance{bal(1, "10", "USD", -10)}, -5)
	worth(t, []api.Balance{bal(1, "10", "GBP", 10)}, 30)
	worth(t, []api.Balance{bal(1, "10", "GBP", -10)}, -30)
	worth(t, []api.Balance{bal(1, "10", "EUR", 4), bal(1, "10", "GBP", -2), bal(1, "10", "USD", 6), bal(1, "2", "USD", -8)}, 4, -6, 3, -4)
	// of that period alone
	got, err := revalue.Worth(market(), "EUR", []api.Balance{bal(1, "10", "JPY", 49), bal(1, "10", "USD", 10)}, 1, 3)
	if err != nil || !slices.Equal(got, []int{7, 70}) {
		t.Errorf("Worth in 3 = %v, %v", got, err)
	}
	// in another base
	got, err = revalue.Worth(market(), "USD", []api.Balance{bal(1, "10", "EUR", 10), bal(1, "10", "JPY", 9), bal(1, "10", "USD", 3)}, 1, 2)
	if err != nil || !slices.Equal(got, []int{20, 9, 3}) {
		t.Errorf("Worth in USD = %v, %v", got, err)
	}
}

// TestV1Rounding: to the nearest, a half to the even one.
func TestV1Rounding(t *testing.T) {
	for n, want := range map[int]int{1: 0, 2: 1, 3: 2, 5: 2, 7: 4, 9: 4, 11: 6, -1: 0, -3: -2, -5: -2, -7: -4} {
		worth(t, []api.Balance{bal(1, "10", "USD", n)}, want)
	}
	for n, want := range map[int]int{1: 0, 3: 0, 4: 1, 10: 1, 11: 2, -3: 0, -4: -1, -11: -2} { // 3.5 of 7 is no number
		got, err := revalue.Worth(market(), "EUR", []api.Balance{bal(1, "10", "JPY", n)}, 1, 3)
		if err != nil || !slices.Equal(got, []int{want}) {
			t.Errorf("Worth of %d JPY = %v, %v, want %d", n, got, err, want)
		}
	}
}

// TestV1NoRate: none of any period, none of this one, and two that would do one after the other.
func TestV1NoRate(t *testing.T) {
	for _, b := range [][]api.Balance{
		{bal(1, "10", "NOK", 1)},
		{bal(1, "10", "JPY", 1)}, // by USD; but what is asked is the base, of which no other rate is
		{bal(1, "10", "EUR", 1), bal(1, "10", "NOK", 1)},
		{bal(1, "10", "USD", 1), bal(1, "11", "NOK", -1), bal(1, "12", "USD", 5)},
		{bal(1, "11", "NOK", 1)}, // no account of Money
	} {
		unworth(t, market(), "EUR", b, 1, 2, api.ErrNone)
	}
	unworth(t, market(), "EUR", []api.Balance{bal(1, "10", "USD", 1)}, 1, 1, api.ErrNone)
	unworth(t, market(), "EUR", []api.Balance{bal(1, "10", "GBP", 1)}, 1, 3, api.ErrNone)
	unworth(t, nil, "EUR", []api.Balance{bal(1, "10", "USD", 1)}, 1, 2, api.ErrNone)
	unworth(t, market(), "NOK", []api.Balance{bal(1, "10", "EUR", 1)}, 1, 2, api.ErrNone)
}

// TestV1Others: a balance of another entity is 0, whatever is wrong with its currency, rate or size.
func TestV1Others(t *testing.T) {
	b := []api.Balance{
		bal(-3, "10", "USD", 1), bal(0, "10", "EUR", 5), bal(1, "10", "USD", 8), bal(2, "10", "EUR", 5), bal(2, "10", "JPY", 5), bal(2, "10", "NOK", 1),
		bal(2, "10", "USD", 10), bal(2, "10", "none", 1), bal(3, "10", "", 1), bal(12, "10", "BIG", big18), bal(13, "99", "BIG", -big18), bal(most, "", "", 1),
	}
	worth(t, b, 0, 0, 4, 0, 0, 0, 0, 0, 0, 0, 0, 0)
	for i := range b {
		if b[i].Entity != 1 {
			worth(t, b[i:i+1], 0)
		}
	}
	got, err := revalue.Worth(market(), "EUR", b, 11, 2)
	if err != nil || !slices.Equal(got, make([]int, len(b))) {
		t.Errorf("Worth of 11 = %v, %v", got, err)
	}
	unworth(t, market(), "EUR", b, 2, 2, api.ErrNone) // JPY is ahead of what is no currency
	unworth(t, market(), "EUR", b, 3, 2, api.ErrSyntax)
	unworth(t, market(), "EUR", b, 12, 2, api.ErrOver)
}

// TestV1Cur: a balance's currency that is none.
func TestV1Cur(t *testing.T) {
	for _, cur := range []string{"", "E", "EU", "EURO", "eur", "EU1", "EU ", "\xff\xff\xff", "É1"} {
		unworth(t, market(), "EUR", []api.Balance{bal(1, "10", cur, 1)}, 1, 2, api.ErrSyntax)
	}
}

// TestV1Over: what is just of 64 bits, and what is not.
func TestV1Over(t *testing.T) {
	at := most / big9 // times big9 it is of 64 bits still
	for _, n := range []int{1, at, -1, -at} {
		worth(t, []api.Balance{bal(1, "10", "BIG", n)}, n*big9)
	}
	for _, n := range []int{at + 1, -at - 1, big18, -big18} {
		unworth(t, market(), "EUR", []api.Balance{bal(1, "10", "BIG", n)}, 1, 2, api.ErrOver)
	}
	worth(t, []api.Balance{bal(1, "10", "SML", big18), bal(1, "11", "SML", -big18)}, big9, -big9)
}

// TestV1FirstError: of several balances that of the first.
func TestV1FirstError(t *testing.T) {
	bad := map[api.Errno]string{api.ErrNone: "NOK", api.ErrOver: "BIG", api.ErrSyntax: "none"}
	for first, a := range bad {
		for _, b := range bad {
			l := []api.Balance{bal(0, "10", "none", 1), bal(1, "10", "EUR", 1), bal(1, "11", a, big18), bal(1, "12", b, big18), bal(1, "2", "USD", 1)}
			unworth(t, market(), "EUR", l, 1, 2, first)
		}
	}
}

// TestV1Bounds: entity and period just at and just past their bounds, whether there is a balance or not.
func TestV1Bounds(t *testing.T) {
	b := []api.Balance{bal(0, "10", "EUR", 1), bal(1, "10", "EUR", 2), bal(12, "10", "EUR", 3), bal(13, "10", "EUR", 4)}
	for _, period := range []int{1, 2, 119, 120} {
		for entity, want := range map[int][]int{1: {0, 2, 0, 0}, 2: {0, 0, 0, 0}, 12: {0, 0, 3, 0}} {
			got, err := revalue.Worth(nil, "EUR", b, entity, period)
			if err != nil || !slices.Equal(got, want) {
				t.Errorf("Worth of %d in %d = %v, %v", entity, period, got, err)
			}
		}
	}
	for _, b := range [][]api.Balance{nil, b} {
		for _, n := range []int{0, -1, most, least} {
			unworth(t, nil, "EUR", b, n, 1, api.ErrRange)
			unworth(t, nil, "EUR", b, 1, n, api.ErrRange)
			unworth(t, market(), "EUR", b, n, n, api.ErrRange)
		}
		unworth(t, nil, "EUR", b, 13, 1, api.ErrRange)
		unworth(t, nil, "EUR", b, 1, 121, api.ErrRange)
	}
}

// TestV1NoBase: a base that is none, with no balance too.
func TestV1NoBase(t *testing.T) {
	for _, base := range []string{"", "E", "EU", "EURO", "eur", "EUr", "EU1", " EU", "EU\n", "\xff\xff\xff", "ÉA"} {
		unworth(t, market(), base, nil, 1, 2, api.ErrSyntax)
		unworth(t, market(), base, []api.Balance{bal(1, "10", "EUR", 1), bal(1, "10", "NOK", 1)}, 1, 2, api.ErrSyntax)
		unworth(t, nil, base, []api.Balance{bal(1, "10", base, 1)}, 1, 2, api.ErrSyntax)
	}
}

// wrongBalances are such that something is wrong with them: each kind that chapter 10 has.
func wrongBalances() [][]api.Balance {
	long := make([]api.Balance, api.MaxItems+1)
	for i := range long {
		long[i] = bal(i, "10", "EUR", 7)
	}
	return [][]api.Balance{
		long,
		{bal(1, "10", "EUR", 7), bal(1, "10", "EUR", 7)},
		{bal(1, "10", "USD", 7), bal(1, "10", "EUR", 7)},
		{bal(9, "10", "USD", 7), bal(8, "10", "USD", 7)},
		{bal(1, "10", "EUR", 7), bal(2, "3", "EUR", big18+1)},
		{bal(1, "10", "EUR", -big18-1)},
		{bal(1, "10", "EUR", 7), bal(9, "10", "EUR", 0)},
		{bal(1, "10", "NOK", 7), bal(1, "12", "EUR", 0)}, // ahead of what Convert says of the one ahead
	}
}

// wrongRates are such that something is wrong with them: each kind that chapter 2 has.
func wrongRates() [][]api.Rate {
	var long []api.Rate
	for i := range api.MaxRates + 1 {
		long = append(long, one("AAA", "EUR", 1+i, 1, 1))
	}
	return [][]api.Rate{
		long,
		{one("EUR", "usd", 1, 1, 1)},
		{one("EUR", "EUR", 1, 1, 1)},
		{one("EUR", "USD", 121, 1, 1)},
		{one("EUR", "USD", 1, 0, 1)},
		append(market(), one("EUR", "USD", 2, 1, 1)),
		append(market(), one("AAA", "BBB", 120, 1, big9+1)), // one that no balance needs
	}
}

// TestV1Which: the balances, the rates, the base, entity and period, then what Convert says.
func TestV1Which(t *testing.T) {
	right := []api.Balance{bal(1, "10", "NOK", 1)}
	for _, base := range []string{"EUR", ""} {
		for _, n := range []int{0, 1} {
			for _, b := range wrongBalances() {
				want := plain.Told(ledger.Check(b))
				for _, l := range append(wrongRates(), market()) {
					unworth(t, l, base, b, n, n, want)
				}
			}
			for _, l := range wrongRates() {
				unworth(t, l, base, right, n, n, plain.Told(rate.Check(l)))
				unworth(t, l, base, nil, n, n, plain.Told(rate.Check(l)))
			}
			unworth(t, market(), "", right, n, n, api.ErrSyntax)
		}
	}
	unworth(t, market(), "EUR", right, 0, 1, api.ErrRange)
	unworth(t, market(), "EUR", []api.Balance{bal(1, "10", "none", 1)}, 1, 121, api.ErrRange)
	unworth(t, market(), "EUR", right, 1, 2, api.ErrNone)
	for _, b := range wrongBalances() { // each of them is wrong
		if ledger.Check(b) == nil {
			t.Errorf("nothing is wrong with %s", short(b))
		}
	}
}

// TestV1CheckAsked: what is wrong with what is asked, in Worth's order, whatever the balances' entities and currencies are.
func TestV1CheckAsked(t *testing.T) {
	right := []api.Balance{bal(-1, "", "none", 1), bal(1, "10", "NOK", 1), bal(12, "10", "BIG", big18), bal(13, "10", "EUR", 1)}
	asked := func(l []api.Rate, base string, b []api.Balance, period int, want api.Errno) {
		t.Helper()
		if got := plain.Told(revalue.CheckAsked(l, base, b, period)); got != want {
			t.Errorf("CheckAsked of %s in %q, %d by %s = %v, want %v", short(b), base, period, short(l), got, want)
		}
	}
	for _, period := range []int{1, 2, 120} {
		asked(market(), "EUR", right, period, api.OK)
		asked(nil, "ZZZ", nil, period, api.OK)
	}
	for _, b := range wrongBalances() {
		asked(wrongRates()[0], "", b, 0, plain.Told(ledger.Check(b)))
	}
	for _, l := range wrongRates() {
		asked(l, "", right, 0, plain.Told(rate.Check(l)))
	}
	asked(market(), "", right, 0, api.ErrSyntax)
	for _, period := range []int{0, -1, 121, most, least} {
		asked(market(), "EUR", right, period, api.ErrRange)
	}
}

// TestV1MaxItems: as many balances, and rates, as may be.
func TestV1MaxItems(t *testing.T) {
	var b []api.Balance
	var want []int
	for i := range api.MaxItems {
		b = append(b, bal(1, fmt.Sprint(100+i), "USD", 2*i+2))
		want = append(want, i+1)
	}
	worth(t, b, want...)
	l := wrongRates()[0][:api.MaxRates]
	got, err := revalue.Worth(l, "EUR", []api.Balance{bal(1, "10", "AAA", 5)}, 1, api.MaxRates)
	if err != nil || !slices.Equal(got, []int{5}) {
		t.Errorf("Worth by %d rates = %v, %v", len(l), got, err)
	}
}
