package ledger_test

import (
	"fmt"
	"slices"
	"testing"

	"quarterday/api"
	"quarterday/ledger"
	"quarterday/plain"
)

// rising makes n balances that rise.
func rising(n int) (l []api.Balance) {
	for i := range n {
		l = append(l, bal(i/7, fmt.Sprint(10+i%7), "EUR", i+1))
	}
	return l
}

// checked fails the test where Check does not tell that error.
func checked(t *testing.T, want api.Errno, l ...api.Balance) {
	t.Helper()
	told(t, fmt.Sprint("Check of ", l), ledger.Check(l), want)
}

func TestG2CheckHowMany(t *testing.T) {
	told(t, "Check of nil", ledger.Check(nil), api.OK)
	told(t, "Check of none", ledger.Check([]api.Balance{}), api.OK)
	for _, n := range []int{1, 2, 20, 199, api.MaxItems} {
		checked(t, api.OK, rising(n)...)
	}
	for _, n := range []int{api.MaxItems + 1, api.MaxItems + 2, 1000} {
		checked(t, api.ErrFull, rising(n)...)
		checked(t, api.ErrFull, make([]api.Balance, n)...) // ahead of what is wrong with each
		checked(t, api.ErrFull, slices.Repeat([]api.Balance{bal(1, "1", "EUR", least)}, n)...)
	}
}

func TestG2CheckAnything(t *testing.T) {
	checked(t, api.OK, bal(0, "", "", 1))
	checked(t, api.OK, bal(least, "\xff", "\xff", 1), bal(most, "", "", -1))
	checked(t, api.OK, bal(-5, "no account", "euro", 1), bal(13, "x", "", 1))
}

// TestG2CheckOrder: two alike, and two the wrong way round, by each of Entity, Account and Cur.
func TestG2CheckOrder(t *testing.T) {
	for _, c := range [][2]api.Balance{
		{bal(1, "10", "EUR", 1), bal(2, "10", "EUR", 1)},
		{bal(1, "20", "USD", 1), bal(2, "10", "EUR", 1)},  // Entity ahead of both
		{bal(2, "10", "EUR", 1), bal(10, "10", "EUR", 1)}, // as a number
		{bal(-2, "10", "EUR", 1), bal(-1, "10", "EUR", 1)},
		{bal(least, "10", "EUR", 1), bal(most, "10", "EUR", 1)},
		{bal(1, "10", "EUR", 1), bal(1, "20", "EUR", 1)},
		{bal(1, "10", "USD", 1), bal(1, "20", "EUR", 1)}, // Account ahead of Cur
		{bal(1, "10", "EUR", 1), bal(1, "2", "EUR", 1)},  // as bytes
		{bal(1, "1", "USD", 1), bal(1, "10", "EUR", 1)},
		{bal(1, "", "USD", 1), bal(1, "\x00", "EUR", 1)},
		{bal(1, "Z", "EUR", 1), bal(1, "a", "EUR", 1)},
		{bal(1, "z", "EUR", 1), bal(1, "\xc3\xa4", "EUR", 1)},
		{bal(1, "\xc3\xa4", "EUR", 1), bal(1, "\xff", "EUR", 1)},
		{bal(1, "10", "EUR", 1), bal(1, "10", "USD", 1)},
		{bal(1, "10", "", 1), bal(1, "10", "EUR", 1)},
		{bal(1, "10", "EU", 1), bal(1, "10", "EUR", 1)},
		{bal(1, "10", "USD", 1), bal(1, "10", "eur", 1)},
		{bal(1, "10", "z", 1), bal(1, "10", "\xff", 1)},
	} {
		a, b := c[0], c[1]
		checked(t, api.OK, a, b)
		checked(t, api.ErrOrder, b, a)
		checked(t, api.ErrOrder, a, a)
		checked(t, api.ErrOrder, a, b, b)
		checked(t, api.ErrOrder, a, b, a)
		a.Amount = 2 // amounts are no part of the order
		checked(t, api.OK, a, b)
		checked(t, api.ErrOrder, b, a)
		checked(t, api.ErrOrder, c[0], a)
		checked(t, api.ErrOrder, a, c[0])
	}
	for i := range api.MaxItems - 1 { // at each place
		l := rising(api.MaxItems)
		l[i], l[i+1] = l[i+1], l[i]
		checked(t, api.ErrOrder, l...)
		l[i] = l[i+1]
		checked(t, api.ErrOrder, l...)
	}
}

func TestG2CheckAmount(t *testing.T) {
	for amount, want := range map[int]api.Errno{
		1: api.OK, -1: api.OK, big15: api.OK, big15 + 1: api.OK, big18 - 1: api.OK, big18: api.OK, 1 - big18: api.OK, -big18: api.OK,
		big18 + 1: api.ErrRange, -big18 - 1: api.ErrRange, 1 << 62: api.ErrRange, most: api.ErrRange, least + 1: api.ErrRange, least: api.ErrRange,
		0: api.ErrShape,
	} {
		checked(t, want, bal(1, "10", "EUR", amount))
		for _, i := range []int{0, 1, 77, api.MaxItems - 1} {
			l := rising(api.MaxItems)
			l[i].Amount = amount
			checked(t, want, l...)
		}
	}
}

// TestG2CheckWhich: what is wrong with the first that has a fault, and of that what is named first.
func TestG2CheckWhich(t *testing.T) {
	good := bal(5, "10", "EUR", 1)
	faults := map[api.Errno]func(*api.Balance){
		api.ErrOrder: func(b *api.Balance) { b.Entity = 0 },
		api.ErrRange: func(b *api.Balance) { b.Amount = big18 + 1 },
		api.ErrShape: func(b *api.Balance) { b.Amount = 0 },
	}
	for one, spoil := range faults {
		for _, spoilOther := range faults {
			first, second := good, good
			first.Account, second.Account = "20", "30"
			spoil(&first)
			spoilOther(&second)
			checked(t, one, good, first)
			checked(t, one, good, first, second)
			if one == api.ErrOrder { // the other fault in the same balance; ErrRange and ErrShape can't meet
				spoilOther(&first)
				checked(t, api.ErrOrder, good, first)
			}
		}
	}
	checked(t, api.ErrOrder, good, bal(5, "10", "EUR", 0))        // alike, and 0
	checked(t, api.ErrOrder, good, bal(5, "10", "EUR", big18+1))  // alike, and too great
	checked(t, api.ErrShape, bal(5, "10", "EUR", 0), good)        // the first is 0, the second like it
	checked(t, api.ErrRange, bal(5, "10", "EUR", -big18-1), good) // likewise
	checked(t, api.ErrRange, bal(5, "10", "EUR", least), bal(4, "10", "EUR", 0))
}

// merged fails the test where Merge, either way round, does not give those balances.
func merged(t *testing.T, a, b []api.Balance, want ...api.Balance) {
	t.Helper()
	for range 2 {
		got, err := ledger.Merge(a, b)
		if err != nil || !slices.Equal(got, want) {
			t.Errorf("Merge of %.300v, %.300v = %.300v, %v, want %.300v", a, b, got, err, want)
		}
		a, b = b, a
	}
}

// unmerged fails the test where Merge does not tell that error alone.
func unmerged(t *testing.T, a, b []api.Balance, want api.Errno) {
	t.Helper()
	got, err := ledger.Merge(a, b)
	if plain.Told(err) != want || len(got) != 0 {
		t.Errorf("Merge of %.200v, %.200v = %.200v, %v, want %v alone", a, b, got, err, want)
	}
}

func TestG2MergeNone(t *testing.T) {
	merged(t, nil, nil)
	merged(t, nil, []api.Balance{})
	for _, n := range []int{1, 2, 20, api.MaxItems} {
		merged(t, rising(n), nil, rising(n)...)
		merged(t, rising(n), []api.Balance{}, rising(n)...)
	}
}

func TestG2Merge(t *testing.T) {
	a := []api.Balance{bal(1, "10", "EUR", 1), bal(1, "10", "USD", 2), bal(1, "20", "EUR", 3), bal(3, "10", "EUR", 4)}
	for _, c := range []struct{ b, want []api.Balance }{
		{ // all ahead, all behind, between
			[]api.Balance{bal(-1, "99", "USD", 9), bal(0, "", "", 8)},
			[]api.Balance{bal(-1, "99", "USD", 9), bal(0, "", "", 8), a[0], a[1], a[2], a[3]},
		},
		{[]api.Balance{bal(3, "10", "EURO", 9), bal(12, "", "", 8)}, []api.Balance{a[0], a[1], a[2], a[3], bal(3, "10", "EURO", 9), bal(12, "", "", 8)}},
		{
			[]api.Balance{bal(1, "10", "GBP", 9), bal(1, "100", "EUR", 8), bal(2, "10", "EUR", 7)},
			[]api.Balance{a[0], bal(1, "10", "GBP", 9), a[1], bal(1, "100", "EUR", 8), a[2], bal(2, "10", "EUR", 7), a[3]},
		},
		// alike
		{a, []api.Balance{bal(1, "10", "EUR", 2), bal(1, "10", "USD", 4), bal(1, "20", "EUR", 6), bal(3, "10", "EUR", 8)}},
		{[]api.Balance{bal(1, "10", "USD", -5)}, []api.Balance{a[0], bal(1, "10", "USD", -3), a[2], a[3]}},
		// the sum is 0
		{[]api.Balance{bal(1, "10", "EUR", -1)}, []api.Balance{a[1], a[2], a[3]}},
		{[]api.Balance{bal(1, "10", "USD", -2), bal(3, "10", "EUR", -4)}, []api.Balance{a[0], a[2]}},
		{[]api.Balance{bal(1, "10", "EUR", -1), bal(1, "10", "USD", -2), bal(1, "20", "EUR", -3), bal(3, "10", "EUR", -4)}, nil},
		// what is like it is another one
		{[]api.Balance{bal(1, "1", "0USD", -2), bal(1, "10U", "SD", -2), bal(31, "0", "EUR", -4)}, []api.Balance{bal(1, "1", "0USD", -2), a[0], a[1], bal(1, "10U", "SD", -2), a[2], a[3], bal(31, "0", "EUR", -4)}},
	} {
		merged(t, a, c.b, c.want...)
	}
}

// wrongBalances has each error of Check.
func wrongBalances() map[api.Errno][]api.Balance {
	return map[api.Errno][]api.Balance{
		api.ErrFull:  rising(api.MaxItems + 1),
		api.ErrOrder: {bal(1, "20", "EUR", 1), bal(1, "10", "EUR", 1)},
		api.ErrRange: {bal(1, "10", "EUR", 1), bal(1, "20", "EUR", big18+1)},
		api.ErrShape: {bal(1, "10", "EUR", 0)},
	}
}

// TestG2MergeWrong: Check's errors, of a first, and ahead of Merge's own.
func TestG2MergeWrong(t *testing.T) {
	for want, bad := range wrongBalances() {
		for _, good := range [][]api.Balance{nil, rising(1), rising(api.MaxItems), {bal(1, "20", "EUR", big18)}} {
			unmerged(t, bad, good, want)
			unmerged(t, good, bad, want)
		}
		for _, other := range wrongBalances() {
			unmerged(t, bad, other, want)
		}
	}
	unmerged(t, []api.Balance{bal(1, "10", "EUR", big18+1)}, []api.Balance{bal(1, "10", "EUR", -1)}, api.ErrRange) // the sum would be right
	unmerged(t, []api.Balance{bal(1, "10", "EUR", 1)}, []api.Balance{bal(1, "10", "EUR", 0)}, api.ErrShape)
	unmerged(t, []api.Balance{bal(1, "10", "EUR", most)}, []api.Balance{bal(1, "10", "EUR", most)}, api.ErrRange)
	unmerged(t, []api.Balance{bal(1, "10", "EUR", least)}, []api.Balance{bal(1, "10", "EUR", least)}, api.ErrRange)
}

// negated are balances that take others back.
func negated(l []api.Balance) []api.Balance {
	l = slices.Clone(l)
	for i := range l {
		l[i].Amount = -l[i].Amount
	}
	return l
}

// TestG2MergeMaxItems: as many together as may be, and one more, those of 0 too.
func TestG2MergeMaxItems(t *testing.T) {
	all := rising(2 * api.MaxItems)
	for _, n := range []int{0, 1, 100, 199, api.MaxItems} {
		merged(t, all[:n], all[n:api.MaxItems], all[:api.MaxItems]...)
		unmerged(t, all[:n], all[n:][:api.MaxItems-n+1:api.MaxItems-n+1], api.ErrFull)
		unmerged(t, all[n:][:api.MaxItems-n+1], all[:n], api.ErrFull)
	}
	full, more := all[:api.MaxItems], all[api.MaxItems]
	merged(t, full, negated(full)) // all of 0
	merged(t, full, negated(full[:199]), full[199])
	unmerged(t, full, append(negated(full[1:]), more), api.ErrFull) // those of 0 count
	unmerged(t, append(negated(full[1:]), more), full, api.ErrFull)
	unmerged(t, full, all[api.MaxItems:], api.ErrFull)
}

// TestG2MergeOver: sums just at the edge, and past it.
func TestG2MergeOver(t *testing.T) {
	for _, c := range []struct {
		a, b int
		err  api.Errno
	}{
		{big18 - 1, 1, api.OK}, {big18, -1, api.OK}, {big18, -big18, api.OK}, {1 - big18, -1, api.OK}, {-big18, 1, api.OK}, {big18 / 2, big18 / 2, api.OK}, {-big18 / 2, -big18 / 2, api.OK},
		{big18, 1, api.ErrOver}, {-big18, -1, api.ErrOver}, {big18, big18, api.ErrOver}, {-big18, -big18, api.ErrOver}, {big18/2 + 1, big18 / 2, api.ErrOver}, {-big18/2 - 1, -big18 / 2, api.ErrOver},
	} {
		for _, at := range []int{0, 1, 2} { // ahead of another, behind it, and of the second of two
			a, b := rising(3), rising(3)
			a[at].Amount, b[at].Amount = c.a, c.b
			b = b[at:]
			if c.err != api.OK {
				unmerged(t, a, b, c.err)
				unmerged(t, b, a, c.err)
				continue
			}
			var want []api.Balance
			for i, x := range a {
				if i >= at {
					x.Amount += b[i-at].Amount
				}
				if x.Amount != 0 {
					want = append(want, x)
				}
			}
			merged(t, a, b, want...)
		}
	}
	a, b := rising(api.MaxItems), rising(api.MaxItems + 1)[1:]
	a[5].Amount, b[4].Amount = big18, big18
	unmerged(t, a, b, api.ErrFull) // named ahead
	unmerged(t, a, b[:199], api.ErrOver)
}

// TestG2Has: what just that entity has in just that account and currency.
func TestG2Has(t *testing.T) {
	l := []api.Balance{bal(-1, "", "", 5), bal(1, "10", "EUR", 7), bal(1, "10", "USD", -8), bal(1, "100", "EUR", 9), bal(2, "10", "EUR", most)}
	for i, b := range l {
		if got := ledger.Has(l, b.Entity, b.Account, b.Cur); got != b.Amount {
			t.Errorf("Has of %v = %d", b, got)
		}
		others := slices.Delete(slices.Clone(l), i, i+1)
		if got := ledger.Has(others, b.Entity, b.Account, b.Cur); got != 0 {
			t.Errorf("Has of %v among others = %d", b, got)
		}
	}
	if got := ledger.Has(nil, 1, "10", "EUR"); got != 0 {
		t.Errorf("Has of none = %d", got)
	}
}
