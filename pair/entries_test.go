package pair_test

import (
	"fmt"
	"reflect"
	"testing"

	"quarterday/api"
	"quarterday/entry"
	"quarterday/ledger"
	"quarterday/pair"
	"quarterday/plain"
)

// movedIn makes an entry of a period by which so much of a currency goes from an account to another one.
func movedIn(cur string, period int, ref string, entity int, code, diff string, amount int) api.Entry {
	return api.Entry{Ref: ref, Entity: entity, Period: period, Lines: []api.Line{{Account: code, Cur: cur, Amount: -amount}, {Account: diff, Cur: cur, Amount: amount}}}
}

// moved makes one of euros, of period 2.
func moved(ref string, entity int, code, diff string, amount int) api.Entry {
	return movedIn("EUR", 2, ref, entity, code, diff, amount)
}

// entries fails the test where Entries in euros of period 2 are not what is wanted, or are such as chapter 4 would not take.
func entries(t *testing.T, l []api.Pair, b []api.Balance, want ...api.Entry) {
	t.Helper()
	got, err := pair.Entries(house(), l, b, "EUR", 2)
	if err != nil || len(got) != len(want) || len(want) > 0 && !reflect.DeepEqual(got, want) {
		t.Errorf("Entries of %s by %s = %s, %v, want %s", short(b), short(l), short(got), err, short(want))
	}
	for _, e := range got {
		if err := entry.Check(house(), e); err != nil {
			t.Errorf("chapter 4 says %v of %v", err, e)
		}
	}
}

// refused fails the test where Entries do not tell that error alone.
func refused(t *testing.T, l []api.Pair, b []api.Balance, cur string, period int, want api.Errno) {
	t.Helper()
	got, err := pair.Entries(house(), l, b, cur, period)
	if plain.Told(err) != want || len(got) != 0 {
		t.Errorf("Entries of %s by %s in %q, %d = %s, %v, want %v alone", short(b), short(l), cur, period, short(got), err, want)
	}
}

func TestN2None(t *testing.T) {
	b := []api.Balance{bal(1, "11", "EUR", 7), bal(2, "2", "EUR", 8)}
	entries(t, nil, nil)
	entries(t, []api.Pair{}, b)
	entries(t, []api.Pair{good()}, nil)
	entries(t, goods(api.MaxRules), b)
	got, err := pair.Entries(nil, nil, b, "EUR", 2) // of no chart
	if err != nil || len(got) != 0 {
		t.Errorf("Entries of nothing = %v, %v", got, err)
	}
}

// TestN2Sides: two entries, one alone, and none, on either side of 0.
func TestN2Sides(t *testing.T) {
	l := []api.Pair{good()}
	for _, n := range []int{1, -1, 7, -7, big15, -big15} {
		for _, m := range []int{1, -1, 5, -5, -n, n, big15, -big15} {
			a, b := moved("pair-0a", 1, "11", "4", n), moved("pair-0b", 2, "2", "4", m)
			entries(t, l, []api.Balance{bal(1, "11", "EUR", n), bal(2, "2", "EUR", m)}, a, b)
			entries(t, l, []api.Balance{bal(1, "11", "EUR", n), bal(2, "2", "USD", m)}, a)
			entries(t, l, []api.Balance{bal(1, "11", "USD", n), bal(2, "2", "EUR", m)}, b)
			entries(t, l, []api.Balance{bal(1, "11", "EUR", n)}, a)
			entries(t, l, []api.Balance{bal(2, "2", "EUR", m)}, b)
			entries(t, l, []api.Balance{bal(1, "11", "USD", n), bal(2, "2", "GBP", m)})
			entries(t, l, []api.Balance{bal(1, "2", "EUR", n), bal(2, "11", "EUR", m), bal(3, "11", "EUR", n), bal(3, "2", "EUR", m)})
		}
	}
}

// TestN2Turned: A is the first whatever the entities' numbers are, and one account may be of both.
func TestN2Turned(t *testing.T) {
	b := []api.Balance{bal(1, "2", "EUR", 3), bal(12, "2", "EUR", 4)}
	entries(t, []api.Pair{of(12, "2", 1, "2", "3")}, b, moved("pair-0a", 12, "2", "3", 4), moved("pair-0b", 1, "2", "3", 3))
	entries(t, []api.Pair{of(1, "2", 12, "2", "3")}, b, moved("pair-0a", 1, "2", "3", 3), moved("pair-0b", 12, "2", "3", 4))
}

// TestN2Currency: in the one that is asked for, and of no other.
func TestN2Currency(t *testing.T) {
	b := []api.Balance{bal(1, "11", "EUR", 10), bal(1, "11", "USD", 100), bal(2, "2", "USD", -5)}
	want := []api.Entry{movedIn("USD", 7, "pair-0a", 1, "11", "4", 100), movedIn("USD", 7, "pair-0b", 2, "2", "4", -5)}
	got, err := pair.Entries(house(), []api.Pair{good()}, b, "USD", 7)
	if err != nil || !reflect.DeepEqual(got, want) {
		t.Errorf("Entries in USD = %v, %v, want %v", got, err, want)
	}
	if got, err = pair.Entries(house(), []api.Pair{good()}, b, "AAA", 7); err != nil || len(got) != 0 {
		t.Errorf("Entries in AAA = %v, %v", got, err)
	}
}

// TestN2Order: the pairs' order, and the number among all of them, those without entries too.
func TestN2Order(t *testing.T) {
	one, none, two, three := of(5, "11", 6, "2", "4"), of(7, "2", 8, "2", "4"), of(4, "2", 3, "11", "3"), of(2, "3", 1, "500000", "4")
	b := []api.Balance{bal(1, "500000", "EUR", 1), bal(3, "11", "EUR", 2), bal(4, "2", "EUR", 3), bal(5, "11", "EUR", 4)}
	entries(t, []api.Pair{one, none, two, three}, b,
		moved("pair-0a", 5, "11", "4", 4), moved("pair-2a", 4, "2", "3", 3), moved("pair-2b", 3, "11", "3", 2), moved("pair-3b", 1, "500000", "4", 1))
	entries(t, []api.Pair{none, three, none2(), two, one}, b,
		moved("pair-1b", 1, "500000", "4", 1), moved("pair-3a", 4, "2", "3", 3), moved("pair-3b", 3, "11", "3", 2), moved("pair-4a", 5, "11", "4", 4))
}

// none2 is a pair more that has nothing.
func none2() api.Pair {
	return of(9, "2", 10, "2", "4")
}

// TestN2MaxRules: numbers of two digits too.
func TestN2MaxRules(t *testing.T) {
	l := goods(api.MaxRules)
	for i, p := range l {
		want := []api.Entry{moved(fmt.Sprintf("pair-%da", i), p.A, p.One, "4", 7), moved(fmt.Sprintf("pair-%db", i), p.B, p.Other, "4", -6)}
		entries(t, l, []api.Balance{bal(p.A, p.One, "EUR", 7), bal(p.B, p.Other, "EUR", -6)}, want...) // A is ahead of B here
	}
}

// TestN2Apart: a pair changes nothing of what is there for a later one, though its Diff is that one's account.
func TestN2Apart(t *testing.T) {
	b := []api.Balance{bal(1, "11", "EUR", 5), bal(1, "4", "EUR", 2)}
	entries(t, []api.Pair{of(1, "11", 2, "11", "4"), of(1, "4", 2, "4", "3")}, b, moved("pair-0a", 1, "11", "4", 5), moved("pair-1a", 1, "4", "3", 2))
	entries(t, []api.Pair{of(1, "11", 2, "11", "4"), of(1, "4", 2, "4", "3")}, b[:1], moved("pair-0a", 1, "11", "4", 5))
}

// TestN2Period: just at and just past its bounds, whether there is an entry or not.
func TestN2Period(t *testing.T) {
	b := []api.Balance{bal(1, "11", "EUR", 7)}
	for _, period := range []int{1, 2, 119, 120} {
		want := movedIn("EUR", period, "pair-0a", 1, "11", "4", 7)
		got, err := pair.Entries(house(), []api.Pair{good()}, b, "EUR", period)
		if err != nil || !reflect.DeepEqual(got, []api.Entry{want}) {
			t.Errorf("Entries in %d = %v, %v", period, got, err)
		}
	}
	for _, period := range []int{0, -1, 121, most, least} {
		refused(t, []api.Pair{good()}, b, "EUR", period, api.ErrRange)
		refused(t, []api.Pair{good()}, nil, "EUR", period, api.ErrRange)
		refused(t, nil, nil, "EUR", period, api.ErrRange)
	}
}

// TestN2MaxAmount: just at and just past it, of One and of Other; what both have together may be more.
func TestN2MaxAmount(t *testing.T) {
	l := append(goods(2), good())
	for _, n := range []int{1, -1} {
		entries(t, l, []api.Balance{bal(1, "11", "EUR", n*big15)}, moved("pair-2a", 1, "11", "4", n*big15))
		entries(t, l, []api.Balance{bal(2, "2", "EUR", n*big15)}, moved("pair-2b", 2, "2", "4", n*big15))
		entries(t, l, []api.Balance{bal(1, "11", "EUR", n*big15), bal(2, "2", "EUR", n*big15)}, moved("pair-2a", 1, "11", "4", n*big15), moved("pair-2b", 2, "2", "4", n*big15))
		for _, past := range []int{n * (big15 + 1), n * big18} {
			refused(t, l, []api.Balance{bal(1, "11", "EUR", past)}, "EUR", 2, api.ErrRange)
			refused(t, l, []api.Balance{bal(2, "2", "EUR", past)}, "EUR", 2, api.ErrRange)
			refused(t, l, []api.Balance{bal(1, "100", "EUR", 1), bal(1, "11", "EUR", past), bal(2, "2", "EUR", -past)}, "EUR", 2, api.ErrRange) // though nothing is left
			refused(t, l, []api.Balance{bal(1, "11", "EUR", 1), bal(2, "2", "EUR", past)}, "EUR", 2, api.ErrRange)
			refused(t, append([]api.Pair{good()}, goods(2)...), []api.Balance{bal(1, "11", "EUR", past), bal(7, "100", "EUR", 1)}, "EUR", 2, api.ErrRange)
			// of another currency, entity or account it may be: it is moved nowhere
			entries(t, l, []api.Balance{bal(1, "11", "USD", past), bal(1, "2", "EUR", past), bal(1, "4", "EUR", past), bal(2, "2", "EUR", 3), bal(3, "11", "EUR", past)}, moved("pair-2b", 2, "2", "4", 3))
		}
	}
}

// TestN2Which: Check's errors, Left's, the period, then the amounts.
func TestN2Which(t *testing.T) {
	great := []api.Balance{bal(1, "11", "EUR", big15+1)}
	for _, period := range []int{0, 2} {
		for _, cur := range append(noCurs, "EUR") {
			for _, b := range append(wrongBalances(), great) {
				refused(t, goods(api.MaxRules+1), b, cur, period, api.ErrFull)
				refused(t, []api.Pair{of(1, "11", 2, "9", "4")}, b, cur, period, api.ErrNone)
				refused(t, []api.Pair{good(), of(1, "11", 2, "5", "4")}, b, cur, period, api.ErrKind)
				refused(t, []api.Pair{good(), good()}, b, cur, period, api.ErrClash)
			}
			for _, b := range wrongBalances() {
				refused(t, []api.Pair{good()}, b, cur, period, plain.Told(ledger.Check(b)))
				refused(t, nil, b, cur, period, plain.Told(ledger.Check(b)))
			}
		}
		for _, cur := range noCurs {
			refused(t, []api.Pair{good()}, great, cur, period, api.ErrSyntax)
			refused(t, nil, nil, cur, period, api.ErrSyntax)
		}
		refused(t, []api.Pair{good()}, great, "EUR", period, api.ErrRange)
	}
}

// TestN2Behind: behind the entries each One and Other is 0, Diff of both entities has Left together, and nothing else is changed.
func TestN2Behind(t *testing.T) {
	l := []api.Pair{of(1, "11", 2, "2", "4"), of(2, "11", 1, "2", "3"), of(3, "100", 4, "100", "4"), of(3, "101", 4, "101", "500000")}
	b := []api.Balance{
		bal(1, "100", "EUR", 1), bal(1, "11", "EUR", 20), bal(1, "11", "USD", 300), bal(1, "2", "EUR", -4000),
		bal(2, "11", "EUR", 4000), bal(2, "2", "EUR", -17), bal(3, "100", "EUR", 5), bal(4, "101", "EUR", -6), bal(4, "101", "USD", 9),
	}
	had, err := pair.Left(l, b, "EUR")
	made, bad := pair.Entries(house(), l, b, "EUR", 2)
	if err != nil || bad != nil || len(made) != 6 {
		t.Fatalf("Left = %v, %v, Entries = %v, %v", had, err, made, bad)
	}
	more, err := ledger.Balances(made, 2)
	behind, bad := ledger.Merge(b, more)
	if err != nil || bad != nil {
		t.Fatal(err, bad)
	}
	want := []api.Balance{
		bal(1, "100", "EUR", 1), bal(1, "11", "USD", 300), bal(1, "3", "EUR", -4000), bal(1, "4", "EUR", 20),
		bal(2, "3", "EUR", 4000), bal(2, "4", "EUR", -17), bal(3, "4", "EUR", 5), bal(4, "101", "USD", 9), bal(4, "500000", "EUR", -6),
	}
	if !reflect.DeepEqual(behind, want) {
		t.Errorf("behind the entries there are %v, want %v", behind, want)
	}
	for i, p := range l {
		both := ledger.Has(behind, p.A, p.Diff, "EUR") + ledger.Has(behind, p.B, p.Diff, "EUR")
		if both != had[i] || ledger.Has(behind, p.A, p.One, "EUR") != 0 || ledger.Has(behind, p.B, p.Other, "EUR") != 0 {
			t.Errorf("Diff of %v has %d together, want %d", p, both, had[i])
		}
	}
	entries(t, l, behind) // and there is nothing more to be moved
}
