package allot_test

import (
	"fmt"
	"reflect"
	"slices"
	"testing"

	"quarterday/allot"
	"quarterday/api"
	"quarterday/entry"
	"quarterday/ledger"
	"quarterday/plain"
)

// given makes the entry of a pool of euros of entity 1 in period 2: codes, and their amounts.
func given(number int, codes []string, amounts ...int) api.Entry {
	e := api.Entry{Ref: fmt.Sprint("allot-", number), Entity: 1, Period: 2}
	for i, code := range codes {
		e.Lines = append(e.Lines, api.Line{Account: code, Cur: "EUR", Amount: amounts[i]})
	}
	return e
}

// entries fails the test where Entries of entity 1 in period 2 are not those that are wanted, or are none that chapter 4 takes.
func entries(t *testing.T, l []api.Pool, b []api.Balance, want ...api.Entry) {
	t.Helper()
	got, err := allot.Entries(house(), l, b, 1, 2)
	if err != nil || len(got) != len(want) || len(want) > 0 && !reflect.DeepEqual(got, want) {
		t.Errorf("Entries of %s by %s = %s, %v, want %s", short(b), short(l), short(got), err, short(want))
	}
	for _, e := range got {
		if err := entry.Check(house(), e); err != nil {
			t.Errorf("entry %s of %s: %v", short(e), short(b), err)
		}
	}
}

// refused fails the test where Entries does not tell that error alone.
func refused(t *testing.T, c []api.Account, l []api.Pool, b []api.Balance, entity, period int, want api.Errno) {
	t.Helper()
	got, err := allot.Entries(c, l, b, entity, period)
	if plain.Told(err) != want || len(got) != 0 {
		t.Errorf("Entries of %s by %s of %d in %d = %s, %v, want %v alone", short(b), short(l), entity, period, short(got), err, want)
	}
}

func TestA2Entries(t *testing.T) {
	l := []api.Pool{good()}
	entries(t, l, []api.Balance{bal(1, "100", "EUR", 60)}, given(0, []string{"100", "11", "2", "3"}, -60, 10, 20, 30))
	entries(t, l, []api.Balance{bal(1, "100", "EUR", 10)}, given(0, []string{"100", "11", "2", "3"}, -10, 2, 3, 5)) // 1 4/6, 3 2/6, 5
	entries(t, l, []api.Balance{bal(1, "100", "EUR", 8)}, given(0, []string{"100", "11", "2", "3"}, -8, 1, 3, 4))   // 1 2/6, 2 4/6, 4
	even := []api.Pool{pool("100", []string{"3", "11", "2"}, 1, 1, 1)}                                              // in the order of To
	entries(t, even, []api.Balance{bal(1, "100", "EUR", 10)}, given(0, []string{"100", "3", "11", "2"}, -10, 4, 3, 3))
	entries(t, even, []api.Balance{bal(1, "100", "EUR", 11)}, given(0, []string{"100", "3", "11", "2"}, -11, 4, 4, 3))
	entries(t, []api.Pool{pool("4", []string{"3"}, 7)}, []api.Balance{bal(1, "4", "EUR", -5)}, given(0, []string{"4", "3"}, 5, -5))
}

// TestA2Below: what is below 0 is given out likewise.
func TestA2Below(t *testing.T) {
	l := []api.Pool{good()}
	entries(t, l, []api.Balance{bal(1, "100", "EUR", -60)}, given(0, []string{"100", "11", "2", "3"}, 60, -10, -20, -30))
	entries(t, l, []api.Balance{bal(1, "100", "EUR", -10)}, given(0, []string{"100", "11", "2", "3"}, 10, -2, -3, -5))
	entries(t, l, []api.Balance{bal(1, "100", "EUR", -1)}, given(0, []string{"100", "3"}, 1, -1)) // of it most was cut off
	even := []api.Pool{pool("100", []string{"3", "11", "2"}, 1, 1, 1)}
	entries(t, even, []api.Balance{bal(1, "100", "EUR", -11)}, given(0, []string{"100", "3", "11", "2"}, 11, -4, -4, -3))
}

func TestA2NoPool(t *testing.T) {
	for _, l := range [][]api.Pool{nil, {}} {
		for _, b := range [][]api.Balance{nil, {}, {bal(1, "100", "EUR", 7)}, {bal(1, "100", "EUR", big18)}} {
			entries(t, l, b)
		}
	}
}

// TestA2NothingThere: no entry, where only another entity, account or currency has something.
func TestA2NothingThere(t *testing.T) {
	others := []api.Balance{
		bal(0, "100", "EUR", 1), bal(1, "10", "EUR", 2), bal(1, "100", "EU", 8), bal(1, "100", "EURO", 9), bal(1, "100", "USD", 3), bal(1, "1000", "EUR", 4), bal(1, "101", "EUR", 5), bal(1, "11", "EUR", 6), bal(2, "100", "EUR", 7), bal(11, "100", "EUR", big18),
	}
	entries(t, []api.Pool{good()}, nil)
	entries(t, []api.Pool{good()}, []api.Balance{})
	entries(t, []api.Pool{good()}, others)
	for i := range others {
		entries(t, []api.Pool{good()}, others[i:i+1])
	}
	one := []api.Entry{given(0, []string{"100", "11", "2", "3"}, -60, 10, 20, 30)}
	entries(t, []api.Pool{good()}, slices.Insert(slices.Clone(others), 3, bal(1, "100", "EUR", 60)), one...) // and where there is one of it too
	// Another entity is asked for.
	got, err := allot.Entries(house(), []api.Pool{good()}, others, 2, 120)
	want := []api.Entry{{Ref: "allot-0", Entity: 2, Period: 120, Lines: []api.Line{{Account: "100", Cur: "EUR", Amount: -7}, {Account: "11", Cur: "EUR", Amount: 1}, {Account: "2", Cur: "EUR", Amount: 2}, {Account: "3", Cur: "EUR", Amount: 4}}}}
	if err != nil || !reflect.DeepEqual(got, want) {
		t.Errorf("Entries of 2 = %v, %v, want %v", got, err, want)
	}
}

// TestA2Currencies: a pool gives out what is there of its own currency.
func TestA2Currencies(t *testing.T) {
	usd := pool("100", []string{"3"}, 1)
	usd.Cur = "USD"
	b := []api.Balance{bal(1, "100", "EUR", 6), bal(1, "100", "USD", -9)}
	dollars := api.Entry{Ref: "allot-0", Entity: 1, Period: 2, Lines: []api.Line{{Account: "100", Cur: "USD", Amount: 9}, {Account: "3", Cur: "USD", Amount: -9}}}
	entries(t, []api.Pool{usd}, b, dollars)
	entries(t, []api.Pool{usd, good()}, b, dollars, given(1, []string{"100", "11", "2", "3"}, -6, 1, 2, 3))
	entries(t, []api.Pool{usd}, b[:1])
}

// TestA2PoolsAhead: they change nothing of what is there for a later one.
func TestA2PoolsAhead(t *testing.T) {
	each := []api.Pool{pool("2", []string{"3"}, 1), pool("3", []string{"2"}, 1)}
	there, back := given(0, []string{"2", "3"}, -7, 7), given(1, []string{"3", "2"}, -5, 5)
	entries(t, each, []api.Balance{bal(1, "2", "EUR", 7), bal(1, "3", "EUR", 5)}, there, back)
	entries(t, each, []api.Balance{bal(1, "2", "EUR", 7)}, there) // what came to 3 is not there for it
	entries(t, each, []api.Balance{bal(1, "3", "EUR", 5)}, back)
	entries(t, each, []api.Balance{bal(1, "2", "EUR", -7), bal(1, "3", "EUR", 7)}, given(0, []string{"2", "3"}, 7, -7), given(1, []string{"3", "2"}, -7, 7)) // it would be 0 then
	same := []api.Pool{pool("2", []string{"3"}, 1), pool("2", []string{"4"}, 1), pool("2", []string{"3"}, 1)}
	entries(t, same, []api.Balance{bal(1, "2", "EUR", 7)}, there, given(1, []string{"2", "4"}, -7, 7), given(2, []string{"2", "3"}, -7, 7)) // of one account
}

// TestA2Zero: shares of 0 are left out, by their weight or because there is too little.
func TestA2Zero(t *testing.T) {
	l := []api.Pool{pool("2", []string{"3", "4", "11"}, 0, 5, 0)}
	entries(t, l, []api.Balance{bal(1, "2", "EUR", 9)}, given(0, []string{"2", "4"}, -9, 9))
	l = []api.Pool{pool("2", []string{"3", "4", "11"}, 5, 0, 5)}
	entries(t, l, []api.Balance{bal(1, "2", "EUR", 9)}, given(0, []string{"2", "3", "11"}, -9, 5, 4))
	entries(t, l, []api.Balance{bal(1, "2", "EUR", 1)}, given(0, []string{"2", "3"}, -1, 1))
	entries(t, l, []api.Balance{bal(1, "2", "EUR", -1)}, given(0, []string{"2", "3"}, 1, -1))
	l = []api.Pool{pool("2", []string{"3", "4", "11"}, 1, 1, api.MaxRatio)}
	entries(t, l, []api.Balance{bal(1, "2", "EUR", 9)}, given(0, []string{"2", "11"}, -9, 9))
	l = []api.Pool{pool("2", leaves(19), slices.Repeat([]int{1}, 19)...)}
	entries(t, l, []api.Balance{bal(1, "2", "EUR", 2)}, given(0, []string{"2", "600", "601"}, -2, 1, 1))
}

// TestA2MaxLines: the account and 19 of To are as many lines as an entry may have.
func TestA2MaxLines(t *testing.T) {
	codes := append([]string{"2"}, leaves(19)...)
	amounts := append([]int{-20, 2}, slices.Repeat([]int{1}, 18)...)
	entries(t, []api.Pool{pool("2", leaves(19), slices.Repeat([]int{1}, 19)...)}, []api.Balance{bal(1, "2", "EUR", 20)}, given(0, codes, amounts...))
}

// TestA2Ref: a pool's number counts those that have no entry too, up to two digits.
func TestA2Ref(t *testing.T) {
	l := []api.Pool{good(), pool("2", []string{"3"}, 1), good(), pool("4", []string{"3"}, 1)}
	b := []api.Balance{bal(1, "2", "EUR", 7), bal(1, "4", "EUR", 5)}
	entries(t, l, b, given(1, []string{"2", "3"}, -7, 7), given(3, []string{"4", "3"}, -5, 5))
	l = slices.Repeat([]api.Pool{good()}, api.MaxRules)
	for at := range l {
		of := slices.Clone(l)
		of[at] = pool("2", []string{"3"}, 1)
		entries(t, of, b, given(at, []string{"2", "3"}, -7, 7))
	}
	var all []api.Entry
	for i := range l {
		l[i] = pool("2", []string{"3"}, 1)
		all = append(all, given(i, []string{"2", "3"}, -7, 7))
	}
	entries(t, l, b, all...)
}

// TestA2Order: entries stand as the pools do, not as the balances.
func TestA2Order(t *testing.T) {
	l := []api.Pool{pool("4", []string{"100"}, 1), pool("2", []string{"100"}, 1), pool("3", []string{"100"}, 1)}
	b := []api.Balance{bal(1, "2", "EUR", 2), bal(1, "3", "EUR", 3), bal(1, "4", "EUR", 4)}
	entries(t, l, b, given(0, []string{"4", "100"}, -4, 4), given(1, []string{"2", "100"}, -2, 2), given(2, []string{"3", "100"}, -3, 3))
}

// TestA2MaxAmount: what is there just at and just past the bound. It counts only where a pool gives it out.
func TestA2MaxAmount(t *testing.T) {
	l := []api.Pool{pool("2", []string{"3"}, 1)}
	for _, n := range []int{big15, -big15, big15 - 1, 1 - big15} {
		entries(t, l, []api.Balance{bal(1, "2", "EUR", n)}, given(0, []string{"2", "3"}, -n, n))
	}
	third := big15 / 3
	entries(t, []api.Pool{pool("2", []string{"3", "4", "11"}, 1, 1, 1)}, []api.Balance{bal(1, "2", "EUR", -big15)}, given(0, []string{"2", "3", "4", "11"}, big15, -third-1, -third, -third))
	for _, n := range []int{big15 + 1, -big15 - 1, big18 - 1, big18, -big18} {
		b := []api.Balance{bal(1, "2", "EUR", n), bal(1, "4", "EUR", 1)}
		refused(t, house(), l, b, 1, 2, api.ErrRange)
		refused(t, house(), []api.Pool{pool("4", []string{"3"}, 1), l[0]}, b, 1, 2, api.ErrRange) // behind one that has an entry
		refused(t, house(), []api.Pool{good(), l[0]}, b, 1, 2, api.ErrRange)                      // and behind one that has none
		refused(t, house(), []api.Pool{pool("2", leaves(19), slices.Repeat([]int{1}, 19)...)}, b, 1, 2, api.ErrRange)
		entries(t, []api.Pool{pool("4", []string{"2"}, 1)}, b, given(0, []string{"4", "2"}, -1, 1)) // no pool of it
		entries(t, l, []api.Balance{bal(1, "2", "USD", n), bal(1, "3", "EUR", n), bal(2, "2", "EUR", n)})
	}
}

// TestA2Bounds: entity and period just at and just past their bounds, whether there is something to give out or not.
func TestA2Bounds(t *testing.T) {
	b := []api.Balance{bal(1, "2", "EUR", 7), bal(12, "2", "EUR", 7), bal(13, "2", "EUR", 7)}
	lists := [][]api.Pool{nil, {good()}, {pool("2", []string{"3"}, 1)}}
	for i, l := range lists {
		for _, at := range [][2]int{{1, 1}, {1, api.MaxPeriod}, {api.MaxEntity, 1}, {api.MaxEntity, api.MaxPeriod}, {2, 60}} {
			got, err := allot.Entries(house(), l, b, at[0], at[1])
			if err != nil || (len(got) > 0) != (i == 2 && at[0] != 2) {
				t.Errorf("Entries of %v = %v, %v", at, got, err)
			}
			for _, e := range got {
				if e.Entity != at[0] || e.Period != at[1] {
					t.Errorf("Entries of %v have %v", at, e)
				}
			}
		}
		for _, n := range []int{0, -1, least, most} {
			refused(t, house(), l, b, n, 1, api.ErrRange)
			refused(t, house(), l, b, 1, n, api.ErrRange)
			refused(t, house(), l, nil, n, n, api.ErrRange)
		}
		refused(t, house(), l, b, api.MaxEntity+1, 1, api.ErrRange)
		refused(t, house(), l, b, 1, api.MaxPeriod+1, api.ErrRange)
		refused(t, house(), l, []api.Balance{bal(0, "2", "EUR", 7)}, 0, 1, api.ErrRange)
	}
}

// wrongBalances are balances with which something is wrong, by what it is.
func wrongBalances() map[api.Errno][]api.Balance {
	long := make([]api.Balance, api.MaxItems+1)
	for i := range long {
		long[i] = bal(i, "2", "EUR", 7)
	}
	return map[api.Errno][]api.Balance{
		api.ErrFull:  long,
		api.ErrOrder: {bal(1, "2", "EUR", 7), bal(1, "2", "EUR", 7)},
		api.ErrRange: {bal(1, "2", "EUR", 7), bal(1, "3", "EUR", big18+1)},
		api.ErrShape: {bal(1, "2", "EUR", 7), bal(9, "2", "EUR", 0)},
	}
}

// TestA2Balances: what is wrong with balances is told ahead of entity, period and amounts, whether a pool needs them or not.
func TestA2Balances(t *testing.T) {
	wide := pool("2", []string{"3"}, 1)
	for err, b := range wrongBalances() {
		for _, l := range [][]api.Pool{nil, {good()}, {wide}} {
			refused(t, house(), l, b, 1, 1, err)
			refused(t, house(), l, b, 0, 0, err)
			refused(t, house(), l, b, 13, 121, err)
		}
	}
	over := []api.Balance{bal(1, "2", "EUR", big15+1), bal(1, "3", "EUR", 1), bal(1, "3", "EUR", 1)}
	refused(t, house(), []api.Pool{wide}, over, 1, 1, api.ErrOrder)
	refused(t, house(), []api.Pool{wide}, over[:2], 1, 1, api.ErrRange)
	long := wrongBalances()[api.ErrFull]
	entries(t, []api.Pool{wide}, long[:api.MaxItems], given(0, []string{"2", "3"}, -7, 7)) // as many as may be
}

// TestA2Which: the chart, then the pools, then the balances.
func TestA2Which(t *testing.T) {
	pools := map[api.Errno][]api.Pool{
		api.ErrFull:   make([]api.Pool, api.MaxRules+1),
		api.ErrNone:   {good(), pool("9", nil)},
		api.ErrKind:   {pool("2", []string{"3"}, 1), pool("2", []string{"1"}, 1)},
		api.ErrSyntax: {{Account: "2", To: []string{"3"}, Weights: []int{1}}},
		api.ErrShape:  {pool("2", nil)},
		api.ErrClash:  {pool("2", []string{"2"}, 1)},
		api.ErrRange:  {pool("2", []string{"3"}, -1)},
	}
	for poolErr, l := range pools {
		for _, b := range wrongBalances() {
			for _, n := range []int{0, 1} {
				for _, w := range wrongCharts() {
					refused(t, w.c, l, b, n, n, w.err)
				}
				refused(t, house(), l, b, n, n, poolErr)
				refused(t, house(), l, nil, n, n, poolErr)
			}
		}
	}
}

// TestA2GivenOut: behind the entries all of it is with those of To, and nothing in the pool, where no pool gives to another.
func TestA2GivenOut(t *testing.T) {
	l := []api.Pool{good(), pool("4", []string{"600", "601", "602", "603"}, 3, 1, 4, 1)}
	for has := -100; has <= 100; has++ {
		if has == 0 {
			continue
		}
		b := []api.Balance{bal(1, "100", "EUR", has), bal(1, "4", "EUR", -7*has)}
		got, err := allot.Entries(house(), l, b, 1, 2)
		if err != nil || len(got) != 2 {
			t.Fatalf("Entries of %v = %v, %v", b, got, err)
		}
		more, _ := ledger.Balances(got, 2)
		all, err := ledger.Merge(b, more)
		sum := 0
		for _, x := range all {
			sum += x.Amount
			if x.Account == "100" || x.Account == "4" {
				t.Errorf("behind giving out %v there is %v", b, all)
			}
		}
		if err != nil || sum != -6*has {
			t.Errorf("behind giving out %v there is %v, %v", b, all, err)
		}
	}
}
