package revalue_test

import (
	"fmt"
	"reflect"
	"slices"
	"strings"
	"testing"

	"quarterday/api"
	"quarterday/chart"
	"quarterday/entry"
	"quarterday/ledger"
	"quarterday/plain"
	"quarterday/revalue"
)

// house is a chart in which 1 and 5 are no leaves; 10, 12, 2 and 500000 are leaves of Money, of several kinds, and 1 is of Money too.
func house() []api.Account {
	return []api.Account{
		{Code: "1", Name: "assets", Kind: api.Asset, Money: true},
		{Code: "10", Name: "cash", Kind: api.Asset, Parent: "1", Money: true},
		{Code: "11", Name: "stock", Kind: api.Asset, Parent: "1"},
		{Code: "12", Name: "bank", Kind: api.Asset, Parent: "1", Money: true},
		{Code: "2", Name: "debts", Kind: api.Liability, Money: true},
		{Code: "3", Name: "kept", Kind: api.Equity},
		{Code: "4", Name: "gains", Kind: api.Income},
		{Code: "5", Name: "costs", Kind: api.Expense},
		{Code: "500000", Name: "loans", Kind: api.Expense, Parent: "5", Money: true},
	}
}

// brought is the entry of entity 1 in period 2 that brings euros to an account, with 4 as gain.
func brought(code string, amount int) api.Entry {
	return api.Entry{Ref: "value-" + code, Entity: 1, Period: 2, Lines: []api.Line{{Account: code, Cur: "EUR", Amount: amount}, {Account: "4", Cur: "EUR", Amount: -amount}}}
}

// entries fails the test where Entries of entity 1 in period 2, in euros, with 4 as gain, are not those that are wanted, or are none that chapter 4 takes, or where more is to be brought behind them.
func entries(t *testing.T, b []api.Balance, want ...api.Entry) {
	t.Helper()
	got, err := revalue.Entries(house(), market(), "EUR", "4", b, 1, 2)
	if err != nil || len(got) != len(want) || len(want) > 0 && !reflect.DeepEqual(got, want) {
		t.Errorf("Entries of %s = %s, %v, want %s", short(b), short(got), err, short(want))
	}
	for _, e := range got {
		if err := entry.Check(house(), e); err != nil {
			t.Errorf("entry %s: %v", short(e), err)
		}
	}
	more, err := revalue.Entries(house(), market(), "EUR", "4", after(t, b, got), 1, 2)
	if err != nil || len(more) != 0 {
		t.Errorf("behind Entries of %s there are %s, %v", short(b), short(more), err)
	}
}

// after has the balances behind entries.
func after(t *testing.T, b []api.Balance, l []api.Entry) []api.Balance {
	t.Helper()
	more, err := ledger.Balances(l, api.MaxPeriod)
	if err != nil {
		t.Fatal(err)
	}
	all, err := ledger.Merge(b, more)
	if err != nil {
		t.Fatal(err)
	}
	return all
}

// refused fails the test where Entries does not tell that error alone.
func refused(t *testing.T, c []api.Account, l []api.Rate, base, gain string, b []api.Balance, entity, period int, want api.Errno) {
	t.Helper()
	got, err := revalue.Entries(c, l, base, gain, b, entity, period)
	if plain.Told(err) != want || len(got) != 0 {
		t.Errorf("Entries of %s in %q, gain %q, of %d in %d by %s = %s, %v, want %v alone", short(b), base, gain, entity, period, short(l), short(got), err, want)
	}
}

// denied is refused of house and market, of entity 1 in period 2, in euros.
func denied(t *testing.T, gain string, b []api.Balance, want api.Errno) {
	t.Helper()
	refused(t, house(), market(), "EUR", gain, b, 1, 2, want)
}

func TestV2Nothing(t *testing.T) {
	entries(t, nil)
	entries(t, []api.Balance{})
	got, err := revalue.Entries(house()[6:7], nil, "ZZZ", "4", nil, 12, 120)
	if err != nil || len(got) != 0 {
		t.Errorf("Entries of nothing = %v, %v", got, err)
	}
}

// TestV2BaseAlone: what is in base alone stays, whatever it is.
func TestV2BaseAlone(t *testing.T) {
	for _, n := range []int{1, -1, 1000, big15, big15 + 1, -big15 - 1, big18, -big18} {
		for _, code := range []string{"10", "11", "12", "2", "3", "500000"} {
			entries(t, []api.Balance{bal(1, code, "EUR", n)})
		}
		entries(t, []api.Balance{bal(1, "10", "EUR", n), bal(1, "12", "EUR", -n), bal(1, "2", "EUR", n)})
	}
}

func TestV2OthersAlone(t *testing.T) {
	for _, code := range []string{"10", "12", "2", "500000"} {
		entries(t, []api.Balance{bal(1, code, "USD", 10)}, brought(code, 5))
		entries(t, []api.Balance{bal(1, code, "USD", -10)}, brought(code, -5))
		entries(t, []api.Balance{bal(1, code, "GBP", 10)}, brought(code, 30))
		entries(t, []api.Balance{bal(1, code, "GBP", 10), bal(1, code, "USD", -10)}, brought(code, 25))
		entries(t, []api.Balance{bal(1, code, "BIG", -1), bal(1, code, "GBP", 10), bal(1, code, "SML", 1), bal(1, code, "USD", 10)}, brought(code, 35-big9))
	}
}

func TestV2Both(t *testing.T) {
	for _, code := range []string{"10", "12", "2", "500000"} {
		for has := -40; has <= 40; has++ {
			if has == 0 {
				continue
			}
			b := []api.Balance{bal(1, code, "EUR", has), bal(1, code, "GBP", 10), bal(1, code, "USD", -10)}
			if has == 25 {
				entries(t, b)
				continue
			}
			entries(t, b, brought(code, 25-has))
		}
	}
	// base stands ahead of, between and behind the others
	entries(t, []api.Balance{bal(1, "10", "BIG", 1), bal(1, "10", "EUR", 4), bal(1, "10", "USD", 6)}, brought("10", big9+3-4))
	entries(t, []api.Balance{bal(1, "10", "BIG", 1), bal(1, "10", "EUR", big9)})
	entries(t, []api.Balance{bal(1, "10", "BIG", 1), bal(1, "10", "EUR", -1)}, brought("10", big9+1))
}

// TestV2WorthNothing: others that are worth 0, each or together, are there all the same.
func TestV2WorthNothing(t *testing.T) {
	entries(t, []api.Balance{bal(1, "10", "USD", 1)})
	entries(t, []api.Balance{bal(1, "10", "EUR", 7), bal(1, "10", "USD", 1)}, brought("10", -7))
	entries(t, []api.Balance{bal(1, "10", "EUR", -7), bal(1, "10", "USD", -1)}, brought("10", 7))
	entries(t, []api.Balance{bal(1, "10", "GBP", 1), bal(1, "10", "USD", -6)})
	entries(t, []api.Balance{bal(1, "10", "EUR", 7), bal(1, "10", "GBP", 1), bal(1, "10", "USD", -6)}, brought("10", -7))
}

// TestV2Rounding: each worth is rounded by itself, not their sum.
func TestV2Rounding(t *testing.T) {
	l := []api.Rate{one("AAA", "EUR", 2, 2, 1), one("BBB", "EUR", 2, 2, 1)}
	for _, c := range [][3]int{{1, 1, 0}, {3, 3, 4}, {1, 3, 2}, {5, 5, 4}, {-3, -3, -4}} {
		got, err := revalue.Entries(house(), l, "EUR", "4", []api.Balance{bal(1, "10", "AAA", c[0]), bal(1, "10", "BBB", c[1])}, 1, 2)
		var want []api.Entry
		if c[2] != 0 {
			want = append(want, brought("10", c[2]))
		}
		if err != nil || !reflect.DeepEqual(got, want) {
			t.Errorf("Entries of %v = %v, %v", c, got, err)
		}
	}
}

// TestV2NotMoney: accounts that are not of Money stay, whatever they have; but there has to be a rate of it.
func TestV2NotMoney(t *testing.T) {
	for _, code := range []string{"11", "3", "4", "5"} {
		entries(t, []api.Balance{bal(1, code, "USD", 10)})
		entries(t, []api.Balance{bal(1, code, "EUR", 10), bal(1, code, "GBP", 10), bal(1, code, "USD", 10)})
		entries(t, []api.Balance{bal(1, code, "GBP", big18), bal(1, code, "USD", big18)})
		denied(t, "4", []api.Balance{bal(1, code, "NOK", 1)}, api.ErrNone)
		denied(t, "4", []api.Balance{bal(1, code, "eur", 1)}, api.ErrSyntax)
		denied(t, "4", []api.Balance{bal(1, code, "BIG", big18)}, api.ErrOver)
	}
	entries(t, []api.Balance{bal(1, "11", "BIG", most/big9), bal(1, "11", "GBP", big18)}) // whose sum would be of more than 64 bits
	entries(t, []api.Balance{bal(1, "10", "USD", 10), bal(1, "11", "USD", 10), bal(1, "12", "USD", 20), bal(1, "3", "USD", 4)}, brought("10", 5), brought("12", 10))
}

// TestV2NoLeaf: an account of Money counts by what it has itself, whether others are under it or not.
func TestV2NoLeaf(t *testing.T) {
	got, err := revalue.Entries(house(), market(), "EUR", "4", []api.Balance{bal(1, "1", "EUR", 1), bal(1, "1", "USD", 10), bal(1, "10", "EUR", 7)}, 1, 2)
	if err != nil || !reflect.DeepEqual(got, []api.Entry{brought("1", 4)}) {
		t.Errorf("Entries = %v, %v", got, err)
	}
	entries(t, []api.Balance{bal(1, "1", "EUR", 1), bal(1, "10", "USD", 10)}, brought("10", 5))
}

// TestV2Order: by Code, as the chart has it, each by what it has itself.
func TestV2Order(t *testing.T) {
	b := []api.Balance{
		bal(1, "10", "USD", 2), bal(1, "11", "USD", 4), bal(1, "12", "EUR", 100), bal(1, "12", "USD", 6), bal(1, "2", "EUR", -4), bal(1, "2", "USD", -8),
		bal(1, "3", "USD", 4), bal(1, "500000", "GBP", 1), bal(1, "500000", "USD", 10),
	}
	entries(t, b, brought("10", 1), brought("12", -97), brought("500000", 8)) // 2 is as it is to be
	// As many as a chart can have.
	c := []api.Account{{Code: "0", Name: "gains", Kind: api.Income}}
	b = nil
	var want []api.Entry
	for i := range api.MaxChart - 1 {
		code := fmt.Sprint(100 + i)
		c = append(c, api.Account{Code: code, Name: "a", Kind: api.Asset, Money: true})
		b = append(b, bal(1, code, "USD", 2*i+2))
		e := brought(code, i+1)
		e.Lines[1].Account = "0"
		want = append(want, e)
	}
	got, err := revalue.Entries(c, market(), "EUR", "0", b, 1, 2)
	if err != nil || !reflect.DeepEqual(got, want) {
		t.Errorf("Entries = %s, %v", short(got), err)
	}
}

// TestV2Codes: accounts whose Codes begin alike are not one.
func TestV2Codes(t *testing.T) {
	entries(t, []api.Balance{bal(1, "1", "EUR", 9), bal(1, "10", "USD", 4), bal(1, "12", "EUR", 5), bal(1, "5", "EUR", 6), bal(1, "500000", "USD", 2)}, brought("10", 2), brought("500000", 1))
}

// TestV2Head: Ref, Entity, Period, and both lines, of other entities, periods, bases and gains.
func TestV2Head(t *testing.T) {
	l := []api.Rate{one("ZZZ", "AAA", 1, 1, 3), one("ZZZ", "AAA", 120, 1, 3)}
	for _, at := range [][2]int{{1, 1}, {1, 120}, {12, 1}, {12, 120}} {
		for _, gain := range []string{"11", "3", "4", "10"} {
			for _, code := range []string{"12", "2", "500000"} {
				b := []api.Balance{bal(at[0], code, "AAA", 2), bal(at[0], code, "ZZZ", 3)}
				want := []api.Entry{{Ref: "value-" + code, Entity: at[0], Period: at[1], Lines: []api.Line{{Account: code, Cur: "AAA", Amount: 7}, {Account: gain, Cur: "AAA", Amount: -7}}}}
				got, err := revalue.Entries(house(), l, "AAA", gain, b, at[0], at[1])
				if err != nil || !reflect.DeepEqual(got, want) {
					t.Errorf("Entries of %v = %v, %v, want %v", at, got, err, want)
				}
			}
		}
	}
}

// TestV2Others: what another entity has changes nothing, and needs no account, rate or currency.
func TestV2Others(t *testing.T) {
	b := []api.Balance{
		bal(0, "10", "EUR", 9), bal(0, "10", "USD", 5), bal(1, "10", "EUR", 1), bal(1, "10", "USD", 10), bal(2, "", "", 1), bal(2, "10", "EUR", 3), bal(2, "10", "NOK", 1), bal(2, "10", "USD", 100),
		bal(2, "12", "USD", 10), bal(2, "99", "EUR", 7), bal(11, "10", "BIG", big18), bal(13, "x", "none", big18),
	}
	entries(t, b, brought("10", 4))
	entries(t, slices.Delete(slices.Clone(b), 3, 4))
	entries(t, slices.Delete(slices.Clone(b), 2, 3), brought("10", 5))
	entries(t, slices.Delete(slices.Clone(b), 2, 4))
}

// noAccounts are texts that are no account of house.
var noAccounts = []string{"", "0", "9", "01", "100", "13", "50", "50000", "5000000", " 2", "2 ", "2\n", "2\x00", "-", "debts", "\xff"}

// TestV2Gain: no account, and no leaf, whether something is to be brought or not.
func TestV2Gain(t *testing.T) {
	for _, b := range [][]api.Balance{nil, {bal(1, "10", "EUR", 3)}, {bal(1, "10", "USD", 10)}, {bal(1, "10", "GBP", big18)}} {
		for _, gain := range noAccounts {
			denied(t, gain, b, api.ErrNone)
		}
		denied(t, "1", b, api.ErrKind)
		denied(t, "5", b, api.ErrKind)
	}
	refused(t, nil, nil, "EUR", "4", nil, 1, 1, api.ErrNone)
	for _, a := range house() {
		if a.Parent == "" && a.Code != "1" && a.Code != "5" {
			if got, err := revalue.Entries(house(), market(), "EUR", a.Code, []api.Balance{bal(1, "10", "USD", 10)}, 1, 2); err != nil || len(got) != 1 {
				t.Errorf("Entries with gain %q = %v, %v", a.Code, got, err)
			}
		}
	}
}

// TestV2NoAccount: a balance of the entity that has none, of base too, anywhere.
func TestV2NoAccount(t *testing.T) {
	for _, code := range noAccounts {
		for _, cur := range []string{"EUR", "USD"} {
			l := []api.Balance{bal(1, "10", "USD", 10), bal(1, "2", "EUR", 3), bal(1, code, cur, 1)}
			slices.SortFunc(l, func(a, b api.Balance) int { return strings.Compare(a.Account, b.Account) })
			denied(t, "4", l, api.ErrNone)
			denied(t, "4", []api.Balance{bal(1, code, cur, 1)}, api.ErrNone)
			for i := range l { // another entity's
				if l[i].Account == code {
					l = append(slices.Delete(l, i, i+1), bal(2, code, cur, 1))
					break
				}
			}
			entries(t, l, brought("10", 5))
		}
	}
}

// TestV2GainIsIt: an account that is gain, with something to be brought, and with nothing.
func TestV2GainIsIt(t *testing.T) {
	for _, n := range []int{4, 6, -5, 100} { // 5 is what it is to be
		for _, code := range []string{"10", "12", "2", "500000"} {
			denied(t, code, []api.Balance{bal(1, code, "EUR", n), bal(1, code, "USD", 10)}, api.ErrClash)
		}
	}
	denied(t, "10", []api.Balance{bal(1, "10", "USD", 10)}, api.ErrClash)
	denied(t, "10", []api.Balance{bal(1, "10", "USD", -10)}, api.ErrClash)
	for _, c := range []struct {
		b    []api.Balance
		want []string
	}{
		{[]api.Balance{bal(1, "12", "EUR", 5), bal(1, "12", "USD", 10)}, nil},
		{[]api.Balance{bal(1, "12", "EUR", 5)}, nil},
		{[]api.Balance{bal(1, "12", "USD", 1)}, nil},
		{[]api.Balance{bal(2, "12", "USD", 10)}, nil},
		{[]api.Balance{bal(1, "10", "USD", 10), bal(1, "12", "EUR", 5), bal(1, "12", "USD", 10), bal(1, "2", "USD", 10)}, []string{"10", "2"}}, // by what it had ahead of all
	} {
		got, err := revalue.Entries(house(), market(), "EUR", "12", c.b, 1, 2)
		if err != nil || len(got) != len(c.want) {
			t.Errorf("Entries of %v = %v, %v", c.b, got, err)
		}
		for i, code := range c.want {
			want := []api.Line{{Account: code, Cur: "EUR", Amount: 5}, {Account: "12", Cur: "EUR", Amount: -5}}
			if !reflect.DeepEqual(got[i], api.Entry{Ref: "value-" + code, Entity: 1, Period: 2, Lines: want}) {
				t.Errorf("Entries of %v = %v", c.b, got)
			}
		}
	}
	// 11 has something in dollars, but is not of Money.
	if got, err := revalue.Entries(house(), market(), "EUR", "11", []api.Balance{bal(1, "11", "USD", 10)}, 1, 2); err != nil || len(got) != 0 {
		t.Errorf("Entries = %v, %v", got, err)
	}
}

// TestV2MaxAmount: an amount just at and just past it, on either side.
func TestV2MaxAmount(t *testing.T) {
	for _, sign := range []int{1, -1} {
		for _, n := range []int{big15 - 1, big15} {
			entries(t, []api.Balance{bal(1, "10", "USD", sign*2*n)}, brought("10", sign*n))
			entries(t, []api.Balance{bal(1, "10", "EUR", sign), bal(1, "10", "USD", sign*2*(n+1))}, brought("10", sign*n))
			entries(t, []api.Balance{bal(1, "10", "EUR", -sign*n), bal(1, "10", "USD", 1)}, brought("10", sign*n))
			entries(t, []api.Balance{bal(1, "10", "EUR", -sign*(n-5)), bal(1, "10", "USD", sign*10)}, brought("10", sign*n))
		}
		for _, n := range []int{big15 + 1, big15 + 2, big18 / 2} {
			denied(t, "4", []api.Balance{bal(1, "10", "USD", sign*2*n)}, api.ErrRange)
			denied(t, "4", []api.Balance{bal(1, "10", "EUR", -sign*n), bal(1, "10", "USD", 1)}, api.ErrRange)
			denied(t, "4", []api.Balance{bal(1, "10", "EUR", -sign*(n-5)), bal(1, "10", "USD", sign*10)}, api.ErrRange)
		}
		// What it has and what it is worth may be more, where the amount is not.
		entries(t, []api.Balance{bal(1, "10", "EUR", sign*(big18-big15)), bal(1, "10", "GBP", sign*big18/3), bal(1, "10", "USD", sign*2)}, brought("10", sign*(big15)))
		entries(t, []api.Balance{bal(1, "10", "EUR", sign*big18/2), bal(1, "10", "USD", sign*big18)})
	}
}

// TestV2Over: a sum that is just of 64 bits, and one that is not: that of the others, and that with what is in base.
func TestV2Over(t *testing.T) {
	l := []api.Rate{one("AAA", "EUR", 2, 1, big9), one("BBB", "EUR", 2, 1, 1), one("CCC", "EUR", 2, 1, big9)}
	whole := most / big9
	rest := most - whole*big9
	of := func(c ...api.Balance) []api.Balance { return c }
	tell := func(b []api.Balance, want api.Errno) {
		t.Helper()
		refused(t, house(), l, "EUR", "4", b, 1, 2, want)
	}
	tell(of(bal(1, "10", "AAA", whole), bal(1, "10", "BBB", rest)), api.ErrRange)
	tell(of(bal(1, "10", "AAA", whole), bal(1, "10", "BBB", rest+1)), api.ErrOver)
	tell(of(bal(1, "10", "AAA", -whole), bal(1, "10", "BBB", -rest-1)), api.ErrRange)
	tell(of(bal(1, "10", "AAA", -whole), bal(1, "10", "BBB", -rest-2)), api.ErrOver)
	// with what is in base
	tell(of(bal(1, "10", "AAA", whole), bal(1, "10", "BBB", rest), bal(1, "10", "EUR", 1)), api.ErrRange)
	tell(of(bal(1, "10", "AAA", whole), bal(1, "10", "BBB", rest), bal(1, "10", "EUR", -1)), api.ErrOver)
	tell(of(bal(1, "10", "AAA", whole), bal(1, "10", "EUR", -rest)), api.ErrRange)
	tell(of(bal(1, "10", "AAA", whole), bal(1, "10", "EUR", -rest-1)), api.ErrOver)
	tell(of(bal(1, "10", "AAA", -whole), bal(1, "10", "EUR", rest+1)), api.ErrRange)
	tell(of(bal(1, "10", "AAA", -whole), bal(1, "10", "EUR", rest+2)), api.ErrOver)
	// what the others are worth has to fit, though what is in base would bring the amount back
	tell(of(bal(1, "10", "AAA", whole), bal(1, "10", "BBB", rest+1), bal(1, "10", "EUR", big18)), api.ErrOver)
	tell(of(bal(1, "10", "AAA", -whole), bal(1, "10", "BBB", -rest-2), bal(1, "10", "EUR", -big18)), api.ErrOver)
	// what is between may be more
	b := of(bal(1, "10", "AAA", whole), bal(1, "10", "BBB", big18), bal(1, "10", "CCC", -whole), bal(1, "10", "EUR", big18-7))
	got, err := revalue.Entries(house(), l, "EUR", "4", b, 1, 2)
	if err != nil || !reflect.DeepEqual(got, []api.Entry{brought("10", 7)}) {
		t.Errorf("Entries of %v = %v, %v", b, got, err)
	}
	// not of one account each
	tell(of(bal(1, "10", "AAA", whole), bal(1, "12", "BBB", big18)), api.ErrRange)
}

// TestV2Chart: what is wrong with a chart is told ahead of all.
func TestV2Chart(t *testing.T) {
	other := func(at int, change func(a *api.Account)) []api.Account {
		l := house()
		change(&l[at])
		return l
	}
	long := make([]api.Account, api.MaxChart+1)
	for i := range long {
		long[i] = api.Account{Code: fmt.Sprint(100 + i), Name: "a", Kind: api.Asset}
	}
	for _, c := range [][]api.Account{
		long,
		other(0, func(a *api.Account) { a.Code = "" }),
		other(8, func(a *api.Account) { a.Name = "" }),
		other(8, func(a *api.Account) { a.Kind = 6 }),
		other(4, func(a *api.Account) { a.Code = "12" }),
		other(8, func(a *api.Account) { a.Parent = "9" }),
		other(8, func(a *api.Account) { a.Parent = "2" }),
	} {
		want := plain.Told(chart.Check(c))
		if want == api.OK {
			t.Fatalf("nothing is wrong with %v", c)
		}
		for _, b := range append(wrongBalances(), nil, []api.Balance{bal(1, "10", "USD", 10)}, []api.Balance{bal(1, "99", "NOK", 10)}) {
			for _, gain := range []string{"4", "1", "9", "10"} {
				refused(t, c, market(), "EUR", gain, b, 1, 2, want)
				refused(t, c, wrongRates()[1], "", gain, b, 0, 121, want)
			}
		}
	}
}

// TestV2Which: gain ahead of a balance without an account, that ahead of what the accounts have; of accounts the first, of one the sum, then the amount, then gain.
func TestV2Which(t *testing.T) {
	over := []api.Balance{bal(1, "10", "BIG", most/big9), bal(1, "10", "GBP", big18)}
	wide := []api.Balance{bal(1, "10", "USD", big18)}
	right := []api.Balance{bal(1, "10", "USD", 10)}
	in := func(code string, l []api.Balance) []api.Balance {
		l = slices.Clone(l)
		for i := range l {
			l[i].Account = code
		}
		return l
	}
	for _, b := range [][]api.Balance{over, wide, right} {
		denied(t, "1", append(slices.Clone(b), bal(1, "99", "EUR", 1)), api.ErrKind)
		denied(t, "9", append(slices.Clone(b), bal(1, "99", "EUR", 1)), api.ErrNone)
		denied(t, "4", append(slices.Clone(b), bal(1, "99", "EUR", 1)), api.ErrNone)
		denied(t, "10", append(slices.Clone(b), bal(1, "99", "EUR", 1)), api.ErrNone)
		denied(t, "1", append(slices.Clone(b), bal(1, "99", "NOK", 1)), api.ErrNone) // Worth's
		denied(t, "1", append(slices.Clone(b), bal(1, "99", "nok", 1)), api.ErrSyntax)
		denied(t, "1", b, api.ErrKind)
	}
	denied(t, "10", over, api.ErrOver)
	denied(t, "10", wide, api.ErrRange)
	denied(t, "10", right, api.ErrClash)
	kinds := []struct {
		b   []api.Balance
		err api.Errno
	}{{over, api.ErrOver}, {wide, api.ErrRange}, {right, api.ErrClash}}
	for _, first := range kinds {
		for _, later := range kinds {
			gain := "10"
			if later.err == api.ErrClash && first.err != api.ErrClash {
				gain = "12"
			}
			denied(t, gain, append(in("10", first.b), in("12", later.b)...), first.err)
			denied(t, gain, append(append(in("10", first.b), bal(1, "11", "USD", big18)), in("2", later.b)...), first.err)
		}
	}
	// behind one that has an entry
	denied(t, "4", append(in("10", right), in("12", over)...), api.ErrOver)
	denied(t, "4", append(in("10", right), in("500000", wide)...), api.ErrRange)
	denied(t, "2", append(in("10", right), in("2", right)...), api.ErrClash)
}
