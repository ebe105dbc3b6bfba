package pair_test

import (
	"fmt"
	"slices"
	"testing"

	"quarterday/api"
	"quarterday/ledger"
	"quarterday/pair"
	"quarterday/plain"
)

// bal makes a balance.
func bal(entity int, account, cur string, amount int) api.Balance {
	return api.Balance{Entity: entity, Account: account, Cur: cur, Amount: amount}
}

// left fails the test where Left in euros is not what is wanted.
func left(t *testing.T, l []api.Pair, b []api.Balance, want ...int) {
	t.Helper()
	got, err := pair.Left(l, b, "EUR")
	if err != nil || !slices.Equal(got, want) {
		t.Errorf("Left of %s by %s = %s, %v, want %s", short(b), short(l), short(got), err, short(want))
	}
}

// unleft fails the test where Left does not tell that error alone.
func unleft(t *testing.T, l []api.Pair, b []api.Balance, cur string, want api.Errno) {
	t.Helper()
	got, err := pair.Left(l, b, cur)
	if plain.Told(err) != want || len(got) != 0 {
		t.Errorf("Left of %s by %s in %q = %s, %v, want %v alone", short(b), short(l), cur, short(got), err, want)
	}
}

// wrongBalances are such that something is wrong with them: each kind that chapter 10 has.
func wrongBalances() [][]api.Balance {
	long := make([]api.Balance, api.MaxItems+1)
	for i := range long {
		long[i] = bal(i, "11", "EUR", 7)
	}
	return [][]api.Balance{
		long,
		{bal(1, "11", "EUR", 7), bal(1, "11", "EUR", 7)},
		{bal(1, "11", "USD", 7), bal(1, "11", "EUR", 7)},
		{bal(9, "11", "USD", 7), bal(8, "11", "USD", 7)},
		{bal(1, "11", "EUR", 7), bal(2, "3", "EUR", big18+1)},
		{bal(1, "11", "EUR", -big18-1)},
		{bal(1, "11", "EUR", 7), bal(9, "11", "EUR", 0)},
	}
}

func TestN1LeftNone(t *testing.T) {
	b := []api.Balance{bal(1, "11", "EUR", 7), bal(2, "2", "EUR", 8)}
	left(t, nil, nil)
	left(t, []api.Pair{}, b)
	left(t, []api.Pair{good()}, nil, 0)
	left(t, []api.Pair{good()}, []api.Balance{}, 0)
	left(t, goods(3), b, 0, 0, 0)
}

// TestN1LeftSides: both sides, one, and none have a balance in the currency, and balances in others.
func TestN1LeftSides(t *testing.T) {
	l := []api.Pair{good()}
	left(t, l, []api.Balance{bal(1, "11", "EUR", 7), bal(2, "2", "EUR", 5)}, 12)
	left(t, l, []api.Balance{bal(1, "11", "EUR", 7), bal(2, "2", "EUR", -5)}, 2)
	left(t, l, []api.Balance{bal(1, "11", "EUR", -7), bal(2, "2", "EUR", 5)}, -2)
	left(t, l, []api.Balance{bal(1, "11", "EUR", -7), bal(2, "2", "EUR", -5)}, -12)
	left(t, l, []api.Balance{bal(1, "11", "EUR", 7), bal(2, "2", "EUR", -7)}, 0)
	left(t, l, []api.Balance{bal(1, "11", "EUR", -7), bal(2, "2", "EUR", 7)}, 0)
	left(t, l, []api.Balance{bal(1, "11", "EUR", 7), bal(2, "2", "EUR", -8)}, -1)
	left(t, l, []api.Balance{bal(1, "11", "EUR", 8), bal(2, "2", "EUR", -7)}, 1)
	left(t, l, []api.Balance{bal(1, "11", "EUR", 7)}, 7)
	left(t, l, []api.Balance{bal(2, "2", "EUR", -5)}, -5)
	left(t, l, []api.Balance{bal(1, "11", "USD", 7), bal(2, "2", "GBP", -5)}, 0)
	left(t, l, []api.Balance{bal(1, "11", "EUQ", 1), bal(1, "11", "EUR", 2), bal(1, "11", "EUS", 3), bal(2, "2", "", 4), bal(2, "2", "EURO", 5), bal(2, "2", "eur", 6)}, 2)
	// of just those entities and accounts
	left(t, l, []api.Balance{bal(1, "2", "EUR", 1), bal(1, "4", "EUR", 2), bal(2, "11", "EUR", 3), bal(2, "4", "EUR", 4), bal(3, "11", "EUR", 5), bal(3, "2", "EUR", 6)}, 0)
	left(t, l, []api.Balance{bal(1, "1", "EUR", 1), bal(1, "110", "EUR", 2), bal(2, "", "EUR", 3), bal(2, "20", "EUR", 4)}, 0)
}

// TestN1LeftCurrency: in the one that is asked for.
func TestN1LeftCurrency(t *testing.T) {
	b := []api.Balance{bal(1, "11", "AAA", 1), bal(1, "11", "EUR", 10), bal(1, "11", "USD", 100), bal(2, "2", "AAA", 1000), bal(2, "2", "USD", -10000)}
	for cur, want := range map[string]int{"AAA": 1001, "EUR": 10, "USD": -9900, "ZZZ": 0} {
		got, err := pair.Left([]api.Pair{good()}, b, cur)
		if err != nil || !slices.Equal(got, []int{want}) {
			t.Errorf("Left in %s = %v, %v, want %d", cur, got, err, want)
		}
	}
}

// TestN1LeftOrder: of each pair, in order.
func TestN1LeftOrder(t *testing.T) {
	b := []api.Balance{bal(1, "11", "EUR", 1), bal(2, "2", "EUR", 2), bal(3, "11", "EUR", 4), bal(4, "2", "EUR", 8), bal(4, "3", "EUR", 16)}
	one, two, three := of(1, "11", 2, "2", "4"), of(4, "2", 3, "11", "4"), of(4, "3", 5, "3", "4")
	left(t, []api.Pair{one, two, three}, b, 3, 12, 16)
	left(t, []api.Pair{three, one, two}, b, 16, 3, 12)
	left(t, []api.Pair{two, three}, b, 12, 16)
}

// TestN1LeftUnchecked: of pairs with which Check finds something wrong too.
func TestN1LeftUnchecked(t *testing.T) {
	b := []api.Balance{
		bal(least, "", "EUR", 1), bal(-1, "x", "EUR", 2), bal(0, "", "EUR", 3), bal(1, "11", "EUR", 4), bal(1, "5", "EUR", 5),
		bal(2, "2", "EUR", 6), bal(13, "\xff", "EUR", 7), bal(most, "none", "EUR", 8),
	}
	for _, c := range []struct {
		p    api.Pair
		want int
	}{
		{api.Pair{}, 6}, // both sides are the account without a code of entity 0
		{of(least, "", most, "none", ""), 9},
		{of(-1, "x", 13, "\xff", "y"), 9},
		{of(1, "11", 1, "5", "11"), 9},
		{of(1, "5", 2, "2", "5"), 11},
		{of(1, "11", 1, "11", "4"), 8}, // what One has and what Other has, though they are one
		{of(1, "9", 13, "11", "4"), 0},
		{of(2, "2", 0, "x", "2"), 6},
	} {
		if pair.Check(house(), []api.Pair{c.p}) == nil {
			t.Errorf("nothing is wrong with %v", c.p)
		}
		left(t, []api.Pair{c.p}, b, c.want)
		left(t, []api.Pair{good(), c.p, good()}, b, 10, c.want, 10) // and one that has what one ahead has
	}
	left(t, slices.Repeat([]api.Pair{good()}, 3), b, 10, 10, 10)
}

// TestN1LeftMaxRules: as many pairs as may be, and one more, ahead of all.
func TestN1LeftMaxRules(t *testing.T) {
	var b []api.Balance
	want := make([]int, api.MaxRules)
	for i, p := range goods(api.MaxRules) {
		b = append(b, bal(p.A, p.One, "EUR", i+1), bal(p.B, p.Other, "EUR", 100*i+100))
		want[i] = 101*i + 101
	}
	slices.SortFunc(b, func(x, y api.Balance) int {
		if x.Entity != y.Entity {
			return x.Entity - y.Entity
		}
		return slices.Compare([]byte(x.Account), []byte(y.Account))
	})
	for n := range api.MaxRules + 1 {
		left(t, goods(n), b, want[:n]...)
		left(t, make([]api.Pair, n), b, make([]int, n)...)
	}
	for _, n := range []int{api.MaxRules + 1, api.MaxRules + 2, 1000, 100_000} {
		for _, b := range append(wrongBalances(), b, nil) {
			unleft(t, goods(n), b, "EUR", api.ErrFull)
			unleft(t, make([]api.Pair, n), b, "", api.ErrFull)
		}
	}
}

// TestN1LeftMaxItems: as many balances as may be, of which the last counts.
func TestN1LeftMaxItems(t *testing.T) {
	b := []api.Balance{bal(1, "11", "EUR", 1000)}
	for i := range api.MaxItems - 2 {
		b = append(b, bal(1, fmt.Sprint("9", 100+i), "EUR", i+1))
	}
	b = append(b, bal(2, "2", "EUR", 1))
	left(t, []api.Pair{good()}, b, 1001)
	unleft(t, []api.Pair{good()}, append(b, bal(3, "2", "EUR", 1)), "EUR", api.ErrFull)
}

// TestN1LeftGreat: as great balances as may be are of 64 bits together.
func TestN1LeftGreat(t *testing.T) {
	for _, n := range []int{1, -1} {
		left(t, []api.Pair{good()}, []api.Balance{bal(1, "11", "EUR", n*big18), bal(2, "2", "EUR", n*big18)}, 2*n*big18)
		left(t, []api.Pair{good()}, []api.Balance{bal(1, "11", "EUR", n*big18), bal(2, "2", "EUR", -n*big18)}, 0)
		left(t, []api.Pair{good()}, []api.Balance{bal(1, "11", "EUR", n*big18), bal(2, "2", "EUR", -n*(big18-1))}, n)
		left(t, []api.Pair{good()}, []api.Balance{bal(2, "2", "EUR", n*big18)}, n*big18)
	}
}

// noCurs are texts that are no currency.
var noCurs = []string{"", "E", "EU", "EURO", "eur", "EUr", "EU1", "EU ", " EU", "EU\n", "\xff\xff\xff", "ÉA"}

// TestN1LeftCur: a currency that is none, of no pair and with no balance too.
func TestN1LeftCur(t *testing.T) {
	for _, cur := range noCurs {
		for _, l := range [][]api.Pair{nil, {good()}, {{}}, goods(api.MaxRules)} {
			unleft(t, l, nil, cur, api.ErrSyntax)
			unleft(t, l, []api.Balance{bal(1, "11", "EUR", 1)}, cur, api.ErrSyntax)
			unleft(t, l, []api.Balance{bal(1, "11", cur, 1)}, cur, api.ErrSyntax)
		}
	}
}

// TestN1LeftWhich: how many pairs there are, then the balances, then the currency.
func TestN1LeftWhich(t *testing.T) {
	met := map[api.Errno]bool{}
	for _, b := range wrongBalances() {
		want := plain.Told(ledger.Check(b))
		met[want] = true
		for _, cur := range []string{"EUR", "", "eur"} {
			for _, l := range [][]api.Pair{nil, {good()}, {{}}, goods(api.MaxRules)} {
				unleft(t, l, b, cur, want)
			}
			unleft(t, goods(api.MaxRules+1), b, cur, api.ErrFull)
		}
	}
	if met[api.OK] || len(met) != 4 {
		t.Errorf("what is wrong with balances is %v", met)
	}
	unleft(t, goods(api.MaxRules+1), nil, "", api.ErrFull)
}
