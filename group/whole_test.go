package group_test

import (
	"slices"
	"testing"

	"quarterday/api"
	"quarterday/chart"
	"quarterday/group"
	"quarterday/plain"
)

// wholly fails the test where Whole of house in euros in period 2, at market's rates, is not what is wanted.
func wholly(t *testing.T, l []api.Holding, top int, b []api.Balance, wantAll, wantOthers sums) {
	t.Helper()
	all, others, err := group.Whole(house(), market(), "EUR", l, top, b, 2)
	if err != nil || !slices.Equal(all, wantAll.list()) || !slices.Equal(others, wantOthers.list()) {
		t.Errorf("Whole of %s of top %d by %s = %v, %v, %v, want %v, %v", short(b), top, short(l), all, others, err, wantAll.list(), wantOthers.list())
	}
}

// unwholly fails the test where Whole of house in euros in period 2, at market's rates, does not tell that error alone.
func unwholly(t *testing.T, l []api.Holding, top int, b []api.Balance, want api.Errno) {
	t.Helper()
	unwhole(t, house(), market(), "EUR", l, top, b, 2, want)
}

func TestH2WholeNone(t *testing.T) {
	for top := 1; top <= api.MaxEntity; top++ {
		wholly(t, nil, top, nil, nil, nil)
		wholly(t, holdings(api.MaxRules), top, []api.Balance{}, nil, nil)
	}
	all, others, err := group.Whole(nil, nil, "EUR", nil, 1, nil, 1) // of a chart without accounts
	if err != nil || len(all)+len(others) != 0 {
		t.Errorf("Whole of nothing = %v, %v, %v", all, others, err)
	}
	all, others, err = group.Whole(nil, nil, "EUR", nil, 1, []api.Balance{eur(2, "10", 1)}, 120)
	if err != nil || len(all)+len(others) != 0 {
		t.Errorf("Whole of no account = %v, %v, %v", all, others, err)
	}
}

// TestH2WholeTop: what is the top's own is nobody else's; what is under an account is in all that it is under.
func TestH2WholeTop(t *testing.T) {
	b := []api.Balance{
		eur(3, "1", 1), eur(3, "10", 10), eur(3, "100", 100), eur(3, "101", 1000), eur(3, "11", 10000),
		eur(3, "2", -7), eur(3, "4", -3), eur(3, "5", 2), eur(3, "500000", 5),
	}
	want := sums{"1": 11111, "10": 1110, "100": 100, "101": 1000, "11": 10000, "2": -7, "4": -3, "5": 7, "500000": 5}
	wholly(t, nil, 3, b, want, nil)
	wholly(t, []api.Holding{has(1, 3, 999), has(4, 3, 1)}, 3, b, want, nil) // others have it
	wholly(t, nil, 2, b, nil, nil)                                          // no part of it
	wholly(t, []api.Holding{has(3, 2, 1000)}, 2, b, nil, nil)
}

// TestH2WholeParts: of entities of which the top has all, a part, and none.
func TestH2WholeParts(t *testing.T) {
	var b []api.Balance
	for entity := range 15 {
		b = append(b, eur(entity, "100", 1000), eur(entity, "11", 10*entity+10), eur(entity, "2", -500))
	}
	l := []api.Holding{has(2, 4, 1000), has(2, 5, 600), has(5, 6, 500), has(3, 7, 1000)}
	all, others := sums{}, sums{}
	for entity, part := range map[int]int{2: 1000, 4: 1000, 5: 600, 6: 300} {
		owed := 10*entity + 10
		for code, n := range (sums{"1": 1000 + owed, "10": 1000, "100": 1000, "11": owed, "2": -500}) {
			all[code] += n
			others[code] += n - n*part/1000 // all of these are even
		}
	}
	wholly(t, l, 2, b, all, others)
	slices.Reverse(l)
	wholly(t, l, 2, b, all, others)
	wholly(t, l, 12, b, sums{"1": 1130, "10": 1000, "100": 1000, "11": 130, "2": -500}, nil)
}

// TestH2WholeCurs: what is in other currencies counts as it is translated.
func TestH2WholeCurs(t *testing.T) {
	b := []api.Balance{
		bal(1, "100", "CHF", 1), eur(1, "100", 5), bal(1, "100", "USD", 1), // 5
		bal(1, "11", "GBP", 2),                     // 6
		eur(2, "100", -4), bal(2, "100", "USD", 8), // 0
		bal(2, "101", "USD", 20),                        // 10
		bal(2, "2", "GBP", -4), bal(2, "2", "USD", -16), // -20
	}
	wholly(t, []api.Holding{has(1, 2, 300)}, 1, b,
		sums{"1": 21, "10": 15, "100": 5, "101": 10, "11": 6, "2": -20},
		sums{"1": 7, "10": 7, "101": 7, "2": -14})
	all, others, err := group.Whole(house(), market(), "USD", []api.Holding{has(1, 2, 300)}, 1, []api.Balance{eur(1, "2", 1), bal(2, "2", "JPY", 10)}, 2)
	if err != nil || !slices.Equal(all, sums{"2": 12}.list()) || !slices.Equal(others, sums{"2": 7}.list()) {
		t.Errorf("Whole in USD = %v, %v, %v", all, others, err)
	}
}

// TestH2WholeRounding: of each entity what is under an account is parted, a half to the even one, above 0 and below.
func TestH2WholeRounding(t *testing.T) {
	half := []api.Holding{has(1, 2, 500)}
	for n, other := range map[int]int{1: 1, 2: 1, 3: 1, 4: 2, 5: 3, 7: 3, 9: 5, -1: -1, -2: -1, -3: -1, -5: -3, -7: -3} {
		wholly(t, half, 1, []api.Balance{eur(2, "2", n)}, sums{"2": n}, sums{"2": other})
	}
	for n, other := range map[int]int{1: 1, 499: 499, 500: 500, 501: 500, 1000: 999, 1499: 1498, 1500: 1498, 1501: 1499, -500: -500, -501: -500, -1500: -1498} {
		wholly(t, []api.Holding{has(1, 2, 1)}, 1, []api.Balance{eur(2, "2", n)}, sums{"2": n}, sums{"2": other})
	}
	for n, other := range map[int]int{1: 0, 499: 0, 500: 0, 501: 1, 1499: 1, 1500: 2, 1501: 2, -499: 0, -500: 0, -501: -1, -1500: -2} {
		wholly(t, []api.Holding{has(1, 2, 999)}, 1, []api.Balance{eur(2, "2", n)}, sums{"2": n}, sums{"2": other})
	}
}

// TestH2WholeRoundingUnder: what is under an account is added up first, then parted; of several entities each by itself.
func TestH2WholeRoundingUnder(t *testing.T) {
	half := []api.Holding{has(1, 2, 500), has(1, 3, 500)}
	wholly(t, half, 1, []api.Balance{eur(2, "100", 1), eur(2, "101", 1)},
		sums{"1": 2, "10": 2, "100": 1, "101": 1},
		sums{"1": 1, "10": 1, "100": 1, "101": 1})
	wholly(t, half, 1, []api.Balance{eur(2, "10", 1), eur(2, "100", 1), eur(2, "11", 1)},
		sums{"1": 3, "10": 2, "100": 1, "11": 1},
		sums{"1": 1, "10": 1, "100": 1, "11": 1})
	wholly(t, half, 1, []api.Balance{eur(2, "100", 1), eur(3, "100", 1)},
		sums{"1": 2, "10": 2, "100": 2},
		sums{"1": 2, "10": 2, "100": 2})
	wholly(t, half, 1, []api.Balance{eur(2, "100", 3), eur(3, "100", -1)},
		sums{"1": 2, "10": 2, "100": 2},
		sums{})
	wholly(t, half, 1, []api.Balance{eur(2, "5", -1), eur(2, "500000", -2)},
		sums{"5": -3, "500000": -2},
		sums{"5": -1, "500000": -1})
}

// TestH2WholeNoPart: where a part is rounded to 0, there is none.
func TestH2WholeNoPart(t *testing.T) {
	l := []api.Holding{has(1, 2, 1), has(2, 3, 999), has(3, 4, 1000)}
	b := []api.Balance{eur(1, "2", 5), eur(2, "2", 1000), eur(3, "2", 7), eur(4, "9", 7)}
	wholly(t, l, 1, b, sums{"2": 1005}, sums{"2": 999})
	unwholly(t, l, 2, b, api.ErrNone)
	wholly(t, l[:2], 2, b, sums{"2": 1007}, sums{"2": 0}) // 7 times 999 over 1000 are 7
}

// TestH2WholeNoAccount: a balance of an account that is none, where the top has a part of its entity, and where not.
func TestH2WholeNoAccount(t *testing.T) {
	l := []api.Holding{has(5, 6, 1), has(5, 7, 1000), has(8, 5, 300)}
	for _, code := range []string{"", "0", "9", "01", "12", "1000", "50", "5000000", " 2", "2\x00", "debts", "\xff"} {
		for entity := -1; entity <= 14; entity++ {
			for _, cur := range []string{"EUR", "USD"} {
				b := []api.Balance{bal(entity, code, cur, 20)}
				if entity >= 5 && entity <= 7 {
					unwholly(t, l, 5, b, api.ErrNone)
				} else {
					wholly(t, l, 5, b, nil, nil)
				}
			}
		}
	}
	unwhole(t, nil, nil, "EUR", l, 5, []api.Balance{eur(7, "2", 1)}, 1, api.ErrNone) // of a chart without accounts
}

// TestH2WholeNoAccountZero: also where it is 0 in base.
func TestH2WholeNoAccountZero(t *testing.T) {
	for _, b := range [][]api.Balance{
		{bal(1, "9", "USD", 1)},
		{eur(1, "9", -1), bal(1, "9", "USD", 2)},
		{eur(1, "2", 1), bal(1, "9", "SML", -7)},
	} {
		unwholly(t, nil, 1, b, api.ErrNone)
		wholly(t, nil, 2, b, nil, nil)
	}
}

// TestH2WholeOverUnder: what is under an account of one entity just of 64 bits, and past it.
func TestH2WholeOverUnder(t *testing.T) {
	for _, top := range []int{1, 2} {
		for _, part := range []int{1, 999, 1000} {
			l := []api.Holding{has(1, 2, part)}
			unwholly(t, l, top, []api.Balance{bal(2, "100", "BIG", great), eur(2, "11", rest+1)}, api.ErrOver)
			unwholly(t, l, top, []api.Balance{bal(2, "100", "BIG", -great), eur(2, "101", -rest-2)}, api.ErrOver)
			unwholly(t, l, top, []api.Balance{bal(2, "5", "BIG", great), bal(2, "500000", "BIG", great)}, api.ErrOver)
		}
	}
	wholly(t, nil, 2, []api.Balance{bal(2, "100", "BIG", great), eur(2, "11", rest)}, sums{"1": most, "10": great * big9, "100": great * big9, "11": rest}, nil)
	wholly(t, nil, 2, []api.Balance{bal(2, "100", "BIG", -great), eur(2, "11", -rest-1)}, sums{"1": least, "10": -great * big9, "100": -great * big9, "11": -rest - 1}, nil)
	// under one account what is between may be greater
	wholly(t, nil, 2, []api.Balance{bal(2, "1", "BIG", great), bal(2, "100", "BIG", great), bal(2, "11", "BIG", -great)},
		sums{"1": great * big9, "10": great * big9, "100": great * big9, "11": -great * big9}, nil)
	wholly(t, []api.Holding{has(1, 2, 1000)}, 1, []api.Balance{bal(2, "2", "BIG", great), eur(2, "2", rest)}, sums{"2": most}, nil)
	wholly(t, []api.Holding{has(1, 2, 500)}, 1, []api.Balance{bal(2, "2", "BIG", -great), eur(2, "2", -rest-1)}, sums{"2": least}, sums{"2": least / 2})
}

// TestH2WholeOverAll: what is all's just of 64 bits, and past it, though no entity's is.
func TestH2WholeOverAll(t *testing.T) {
	l := []api.Holding{has(1, 2, 1000), has(1, 3, 1)}
	wholly(t, l, 1, []api.Balance{bal(1, "2", "BIG", great), eur(2, "2", rest)}, sums{"2": most}, nil)
	wholly(t, l, 1, []api.Balance{bal(1, "2", "BIG", -great), eur(2, "2", -rest-1)}, sums{"2": least}, nil)
	unwholly(t, l, 1, []api.Balance{bal(1, "2", "BIG", great), eur(2, "2", rest+1)}, api.ErrOver)
	unwholly(t, l, 1, []api.Balance{bal(1, "2", "BIG", -great), eur(2, "2", -rest-2)}, api.ErrOver)
	unwholly(t, l, 1, []api.Balance{bal(1, "100", "BIG", great), bal(2, "11", "BIG", great)}, api.ErrOver) // under 1 alone
	unwholly(t, l, 1, []api.Balance{bal(2, "2", "BIG", great), bal(3, "2", "BIG", great)}, api.ErrOver)
	wholly(t, l, 1, []api.Balance{bal(2, "2", "BIG", great), bal(4, "2", "BIG", great), bal(11, "2", "BIG", great)}, sums{"2": great * big9}, nil) // of 4 and 11 it has no part
}

// TestH2WholeOverOthers: what is others' just of 64 bits, and past it, though what is all's is less.
func TestH2WholeOverOthers(t *testing.T) {
	l := []api.Holding{has(1, 2, 1), has(1, 3, 1)}
	const thousandth = great * (big9 / 1000)
	lacks := most - (great*big9 - thousandth)
	n := lacks
	for n-(n+500)/1000 < lacks { // what is others' of n
		n += max(1, lacks-(n-(n+500)/1000))
	}
	b := []api.Balance{bal(1, "2", "BIG", -great), bal(2, "2", "BIG", great), eur(3, "2", n)}
	wholly(t, l, 1, b, sums{"2": n}, sums{"2": most})
	b[2].Amount = n + 2
	unwholly(t, l, 1, b, api.ErrOver)
	b[2] = bal(3, "2", "BIG", great)
	unwholly(t, l, 1, b, api.ErrOver)
	unwholly(t, l, 1, append(b, eur(3, "9", 1)), api.ErrNone)
	for i := range b {
		b[i].Amount = -b[i].Amount
	}
	unwholly(t, l, 1, b, api.ErrOver)
	wholly(t, l[:1], 1, b, nil, sums{"2": thousandth - great*big9})
}

// TestH2WholeOverOnTheWay: entity by entity: a sum that is too great with one is told, whatever the ones behind it are.
func TestH2WholeOverOnTheWay(t *testing.T) {
	l := []api.Holding{has(1, 2, 1000), has(1, 3, 1000), has(1, 4, 1000)}
	for _, n := range []int{great, -great} {
		b := []api.Balance{bal(1, "2", "BIG", n), bal(2, "2", "BIG", n), bal(3, "2", "BIG", -n)}
		unwholly(t, l, 1, b, api.ErrOver)
		unwholly(t, l, 1, append(b, eur(4, "9", 1)), api.ErrOver)
		b[1], b[2] = bal(2, "2", "BIG", -n), bal(3, "2", "BIG", n)
		wholly(t, l, 1, b, sums{"2": n * big9}, nil)
	}
}

// TestH2WholeFirst: the error of the first entity; of one an account that is none ahead of sums.
func TestH2WholeFirst(t *testing.T) {
	l := []api.Holding{has(9, 2, 5), has(9, 3, 5)}
	tooMuch := func(entity int) []api.Balance {
		return []api.Balance{bal(entity, "100", "BIG", great), bal(entity, "11", "BIG", great)}
	}
	unwholly(t, l, 9, append(tooMuch(2), eur(3, "9", 1)), api.ErrOver)
	unwholly(t, l, 9, append(tooMuch(2), eur(2, "9", 1)), api.ErrNone)
	unwholly(t, l, 9, append([]api.Balance{eur(2, "9", 1)}, tooMuch(3)...), api.ErrNone)
	unwholly(t, l, 9, append([]api.Balance{eur(1, "9", 1)}, tooMuch(3)...), api.ErrOver) // of 1 it has no part
	unwholly(t, l, 9, append(tooMuch(1), eur(3, "9", 1)), api.ErrNone)
	unwholly(t, l, 9, append(tooMuch(3), eur(9, "9", 1)), api.ErrOver) // the top in its turn
	unwholly(t, append(l, has(9, 11, 1)), 9, append([]api.Balance{eur(9, "9", 1)}, tooMuch(11)...), api.ErrNone)
	unwholly(t, append(l, has(9, 11, 1)), 9, append(tooMuch(9), eur(11, "9", 1)), api.ErrOver)
}

// TestH2WholeChart: what is wrong with a chart is told ahead of all.
func TestH2WholeChart(t *testing.T) {
	for _, c := range wrongCharts() {
		want := plain.Told(chart.Check(c))
		if want == api.OK {
			t.Errorf("nothing is wrong with %s", short(c))
		}
		unwhole(t, c, nil, "EUR", nil, 1, nil, 1, want)
		unwhole(t, c, market(), "EUR", nil, 0, []api.Balance{eur(1, "10", 1)}, 2, want)
		for _, l := range wrongHoldings() {
			unwhole(t, c, wrongRates()[1], "", l, 13, wrongBalances()[1], 0, want)
		}
	}
}

// TestH2WholeWhich: the chart, then the holdings, the top, then what Translate says, then accounts.
func TestH2WholeWhich(t *testing.T) {
	b := []api.Balance{eur(1, "9", 1), bal(1, "9", "NOK", 1)}
	for want, l := range wrongHoldings() {
		unwhole(t, house(), wrongRates()[1], "", l, 0, wrongBalances()[1], 0, want)
		unwhole(t, house(), market(), "EUR", l, 1, b, 2, want)
	}
	unwhole(t, house(), wrongRates()[1], "", nil, 0, wrongBalances()[1], 0, api.ErrRange)
	unwhole(t, house(), wrongRates()[1], "", nil, 1, wrongBalances()[1], 0, api.ErrOrder)
	unwhole(t, house(), wrongRates()[2], "", nil, 1, b, 0, api.ErrShape)
	unwhole(t, house(), market(), "", nil, 1, b, 0, api.ErrSyntax)
	unwhole(t, house(), market(), "EUR", nil, 1, b, 0, api.ErrRange)
	unwhole(t, house(), market(), "EUR", nil, 1, []api.Balance{eur(1, "9", 1), bal(3, "2", "none", 1)}, 2, api.ErrSyntax) // of another entity too
	unwhole(t, house(), market(), "EUR", nil, 1, []api.Balance{eur(1, "9", 1), bal(3, "2", "BIG", big18)}, 2, api.ErrOver)
	unwhole(t, house(), market(), "EUR", nil, 1, b[:1], 2, api.ErrNone)
}
