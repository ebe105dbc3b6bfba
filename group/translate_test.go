package group_test

import (
	"fmt"
	"slices"
	"testing"

	"quarterday/api"
	"quarterday/group"
	"quarterday/ledger"
	"quarterday/plain"
	"quarterday/rate"
)

// translated fails the test where Translate to euros in period 2, at market's rates, is not what is wanted.
func translated(t *testing.T, b []api.Balance, want ...api.Balance) {
	t.Helper()
	got, err := group.Translate(market(), "EUR", b, 2)
	if err != nil || !slices.Equal(got, want) {
		t.Errorf("Translate of %s = %s, %v, want %s", short(b), short(got), err, short(want))
	}
}

// untranslated fails the test where Translate, and Whole of a right chart and holdings, do not tell that error alone.
func untranslated(t *testing.T, rates []api.Rate, base string, b []api.Balance, period int, want api.Errno) {
	t.Helper()
	got, err := group.Translate(rates, base, b, period)
	if plain.Told(err) != want || len(got) != 0 {
		t.Errorf("Translate of %s to %q in %d by %s = %s, %v, want %v alone", short(b), base, period, short(rates), short(got), err, want)
	}
	unwhole(t, house(), rates, base, nil, 7, b, period, want)
	unwhole(t, nil, rates, base, holdings(api.MaxRules), 1, b, period, want)
}

func TestH2TranslateNone(t *testing.T) {
	translated(t, nil)
	translated(t, []api.Balance{})
	for _, period := range []int{1, 2, 119, 120} {
		if got, err := group.Translate(nil, "ZZZ", nil, period); err != nil || len(got) != 0 {
			t.Errorf("Translate of nothing = %v, %v", got, err)
		}
	}
}

// TestH2TranslateBase: what is in base stays, without a rate too.
func TestH2TranslateBase(t *testing.T) {
	for _, base := range []string{"EUR", "AAA", "ZZZ"} {
		b := []api.Balance{bal(1, "", base, 1), bal(1, "10", base, -1), bal(2, "10", base, big18), bal(3, "10", base, -big18)}
		for _, period := range []int{1, 120} {
			got, err := group.Translate(nil, base, b, period)
			if err != nil || !slices.Equal(got, b) {
				t.Errorf("Translate of %v = %v, %v", b, got, err)
			}
		}
	}
}

// TestH2TranslateAdds: all of an account of an entity together; not of another account, nor of another entity.
func TestH2TranslateAdds(t *testing.T) {
	translated(t, []api.Balance{
		bal(1, "10", "CHF", 8), eur(1, "10", 1), bal(1, "10", "GBP", 5), bal(1, "10", "USD", 20),
		bal(1, "100", "USD", 6),
		bal(1, "2", "CHF", -6), bal(1, "2", "USD", -8),
		bal(2, "10", "USD", 40),
		bal(2, "2", "GBP", -7), bal(2, "2", "USD", 2),
	}, eur(1, "10", 4+1+15+10), eur(1, "100", 3), eur(1, "2", -3-4), eur(2, "10", 20), eur(2, "2", -21+1))
	// in another base, and of another period
	b := []api.Balance{eur(1, "10", 10), bal(1, "10", "JPY", 9), bal(1, "10", "USD", 3), bal(4, "10", "JPY", -2)}
	got, err := group.Translate(market(), "USD", b, 2)
	if err != nil || !slices.Equal(got, []api.Balance{bal(1, "10", "USD", 20+9+3), bal(4, "10", "USD", -2)}) {
		t.Errorf("Translate to USD = %v, %v", got, err)
	}
	b = []api.Balance{eur(1, "10", 10), bal(1, "10", "JPY", 49), bal(1, "10", "USD", 3)}
	got, err = group.Translate(market(), "EUR", b, 3)
	if err != nil || !slices.Equal(got, []api.Balance{eur(1, "10", 10+7+21)}) {
		t.Errorf("Translate in 3 = %v, %v", got, err)
	}
}

// TestH2TranslateAny: balances may be of any entity and account, of which none is told.
func TestH2TranslateAny(t *testing.T) {
	translated(t, []api.Balance{
		bal(least, "x", "USD", 2), bal(-1, "", "USD", 4), bal(0, "", "USD", 6), bal(0, "\xff", "CHF", 8), bal(0, "\xff", "USD", 10),
		bal(12, "1234567", "GBP", 1), bal(13, "99", "USD", 14), bal(most, "", "USD", -16),
	}, eur(least, "x", 1), eur(-1, "", 2), eur(0, "", 3), eur(0, "\xff", 4+5), eur(12, "1234567", 3), eur(13, "99", 7), eur(most, "", -8))
}

// TestH2TranslateRounding: each balance by itself, to the nearest, a half to the even one.
func TestH2TranslateRounding(t *testing.T) {
	translated(t, []api.Balance{bal(1, "10", "CHF", 1), bal(1, "10", "USD", 3), bal(1, "11", "CHF", -3), bal(1, "11", "USD", -3)}, eur(1, "10", 2), eur(1, "11", -4))
	translated(t, []api.Balance{bal(1, "10", "CHF", 1), bal(1, "10", "USD", 1)}) // a half and a half, each of them 0
	translated(t, []api.Balance{bal(1, "10", "CHF", 5), bal(1, "10", "USD", 7), bal(2, "10", "CHF", -5), bal(2, "10", "USD", 7)}, eur(1, "10", 6), eur(2, "10", 2))
}

// TestH2TranslateZero: what is 0 in the end is left out, first, between and last; what is 0 on the way is not.
func TestH2TranslateZero(t *testing.T) {
	translated(t, []api.Balance{bal(1, "10", "USD", 1)})
	translated(t, []api.Balance{eur(1, "10", -4), bal(1, "10", "USD", 8)})
	translated(t, []api.Balance{
		bal(1, "10", "CHF", -14), eur(1, "10", 7),
		eur(1, "11", 1),
		bal(2, "11", "CHF", 2), bal(2, "11", "GBP", -1), bal(2, "11", "USD", 4), // 1 and -3 and 2
		bal(2, "2", "SML", 1),
		eur(3, "1", 5),
		eur(4, "1", -1), bal(4, "1", "USD", 2),
	}, eur(1, "11", 1), eur(3, "1", 5))
	translated(t, []api.Balance{bal(1, "10", "CHF", -14), eur(1, "10", 7), bal(1, "10", "USD", 6)}, eur(1, "10", 3))
	translated(t, []api.Balance{eur(1, "10", 7), bal(1, "10", "USD", -14), eur(2, "10", 7)}, eur(2, "10", 7))
}

// TestH2TranslateNoBase: a base that is none, with no balance too.
func TestH2TranslateNoBase(t *testing.T) {
	for _, base := range []string{"", "E", "EU", "EURO", "eur", "EUr", "EU1", " EU", "EU\n", "\xff\xff\xff", "ÉA"} {
		untranslated(t, market(), base, nil, 2, api.ErrSyntax)
		untranslated(t, market(), base, []api.Balance{eur(1, "10", 1), bal(1, "10", "NOK", 1)}, 2, api.ErrSyntax)
		untranslated(t, nil, base, []api.Balance{bal(1, "10", base, 1)}, 2, api.ErrSyntax)
	}
}

// TestH2TranslatePeriod: just at and just past its bounds.
func TestH2TranslatePeriod(t *testing.T) {
	for _, b := range [][]api.Balance{nil, {eur(1, "10", 1)}} {
		for _, period := range []int{1, 120} {
			got, err := group.Translate(nil, "EUR", b, period)
			if err != nil || !slices.Equal(got, b) {
				t.Errorf("Translate in %d = %v, %v", period, got, err)
			}
		}
		for _, period := range []int{0, -1, 121, 122, most, least} {
			untranslated(t, nil, "EUR", b, period, api.ErrRange)
			untranslated(t, market(), "EUR", b, period, api.ErrRange)
		}
	}
}

// TestH2TranslateConvert: no rate of any period, of this one, or of the base; no currency; more than 64 bits.
func TestH2TranslateConvert(t *testing.T) {
	untranslated(t, market(), "EUR", []api.Balance{bal(1, "10", "NOK", 1)}, 2, api.ErrNone)
	untranslated(t, market(), "EUR", []api.Balance{bal(1, "10", "JPY", 1)}, 2, api.ErrNone)
	untranslated(t, market(), "EUR", []api.Balance{bal(1, "10", "USD", 1)}, 1, api.ErrNone)
	untranslated(t, nil, "EUR", []api.Balance{bal(1, "10", "USD", 1)}, 2, api.ErrNone)
	untranslated(t, market(), "NOK", []api.Balance{eur(1, "10", 1)}, 2, api.ErrNone)
	for _, cur := range []string{"", "E", "EU", "EURO", "eur", "EU1", "\xff\xff\xff"} {
		untranslated(t, market(), "EUR", []api.Balance{bal(1, "10", cur, 1)}, 2, api.ErrSyntax)
	}
	at := most / big9 // times big9 it is of 64 bits still
	for _, n := range []int{at, -at} {
		translated(t, []api.Balance{bal(1, "10", "BIG", n)}, eur(1, "10", n*big9))
	}
	for _, n := range []int{at + 1, -at - 1, big18, -big18} {
		untranslated(t, market(), "EUR", []api.Balance{bal(1, "10", "BIG", n)}, 2, api.ErrOver)
	}
	for _, entity := range []int{-1, 0, 1, 12, 13} { // of whatever entity
		for i, cur := range []string{"NOK", "none", "BIG"} {
			want := []api.Errno{api.ErrNone, api.ErrSyntax, api.ErrOver}[i]
			untranslated(t, market(), "EUR", []api.Balance{bal(entity, "10", cur, big18)}, 2, want)
		}
	}
}

// great is just as much of BIG as is of 64 bits in euros, and rest is what that lacks of the greatest number.
const (
	great = most / big9
	rest  = most - great*big9
)

// TestH2TranslateOver: a sum just of 64 bits, and one more.
func TestH2TranslateOver(t *testing.T) {
	translated(t, []api.Balance{bal(1, "10", "BIG", great), eur(1, "10", rest)}, eur(1, "10", most))
	translated(t, []api.Balance{bal(1, "10", "BIG", -great), eur(1, "10", -rest-1)}, eur(1, "10", least))
	untranslated(t, market(), "EUR", []api.Balance{bal(1, "10", "BIG", great), eur(1, "10", rest+1)}, 2, api.ErrOver)
	untranslated(t, market(), "EUR", []api.Balance{bal(1, "10", "BIG", -great), eur(1, "10", -rest-2)}, 2, api.ErrOver)
	untranslated(t, market(), "EUR", []api.Balance{bal(1, "10", "BIG", great), bal(1, "10", "GRT", great)}, 2, api.ErrOver)
	// of two accounts, and of two entities, no sum is too great
	translated(t, []api.Balance{bal(1, "10", "BIG", great), bal(1, "11", "GRT", great), bal(2, "11", "GRT", great)},
		eur(1, "10", great*big9), eur(1, "11", great*big9), eur(2, "11", great*big9))
	// on the way it may be at the edge
	translated(t, []api.Balance{bal(1, "10", "BIG", great), eur(1, "10", rest), bal(1, "10", "GRT", -great)}, eur(1, "10", rest))
}

// TestH2TranslateOverOnTheWay: balance by balance: a sum that is too great with one is told, whatever the ones behind it are.
func TestH2TranslateOverOnTheWay(t *testing.T) {
	for _, sign := range []int{1, -1} {
		b := []api.Balance{bal(1, "10", "BIG", sign*great), eur(1, "10", sign*big18), bal(1, "10", "GRT", -sign*great)}
		untranslated(t, market(), "EUR", b, 2, api.ErrOver)
		b[2].Cur = "NOK"
		untranslated(t, market(), "EUR", b, 2, api.ErrOver)
	}
}

// TestH2TranslateFirst: of several balances the error of the first, be it Convert's or of a sum.
func TestH2TranslateFirst(t *testing.T) {
	bad := map[api.Errno][]api.Balance{
		api.ErrNone:   {bal(0, "10", "NOK", 1)},
		api.ErrSyntax: {bal(0, "10", "none", 1)},
		api.ErrOver:   {bal(0, "10", "BIG", great), eur(0, "10", big18)},
	}
	for first, l := range bad {
		for _, more := range bad {
			for _, at := range [][2]api.Balance{{eur(1, "10", 0), eur(1, "11", 0)}, {eur(1, "10", 0), eur(2, "10", 0)}, {eur(3, "", 0), eur(14, "", 0)}} {
				b := []api.Balance{eur(-1, "10", 1), bal(0, "10", "USD", 2)}
				for i, l := range [][]api.Balance{l, more} {
					for _, x := range l {
						x.Entity, x.Account = at[i].Entity, at[i].Account
						b = append(b, x)
					}
				}
				untranslated(t, market(), "EUR", append(b, bal(most, "", "USD", 1)), 2, first)
			}
		}
	}
	untranslated(t, market(), "EUR", []api.Balance{bal(1, "10", "BIG", great), eur(1, "10", big18), bal(1, "10", "none", 1)}, 2, api.ErrOver)
	untranslated(t, market(), "EUR", []api.Balance{bal(1, "10", "BIG", great), bal(1, "10", "EUX", 1), bal(1, "10", "GRT", great)}, 2, api.ErrNone)
}

// TestH2TranslateWhich: the balances, the rates, the base, the period, then what comes balance by balance.
func TestH2TranslateWhich(t *testing.T) {
	right := []api.Balance{bal(1, "10", "NOK", 1)}
	for _, base := range []string{"EUR", ""} {
		for _, period := range []int{0, 1, 2} {
			for _, b := range wrongBalances() {
				want := plain.Told(ledger.Check(b))
				if want == api.OK {
					t.Errorf("nothing is wrong with %s", short(b))
				}
				for _, l := range append(wrongRates(), market()) {
					untranslated(t, l, base, b, period, want)
				}
			}
			for _, l := range wrongRates() {
				want := plain.Told(rate.Check(l))
				if want == api.OK {
					t.Errorf("nothing is wrong with %s", short(l))
				}
				untranslated(t, l, base, right, period, want)
				untranslated(t, l, base, nil, period, want)
			}
			untranslated(t, market(), "", right, period, api.ErrSyntax)
		}
	}
	untranslated(t, market(), "EUR", right, 121, api.ErrRange)
	untranslated(t, market(), "EUR", right, 2, api.ErrNone)
}

// TestH2TranslateFull: as many balances, and rates, as may be.
func TestH2TranslateFull(t *testing.T) {
	var b, want []api.Balance
	for i := range api.MaxItems / 2 {
		b = append(b, bal(i, "10", "CHF", 2*i+2), bal(i, "10", "USD", 4*i+4))
		want = append(want, eur(i, "10", 3*i+3))
	}
	translated(t, b, want...)
	for i := range b {
		b[i] = bal(1, fmt.Sprint(100+i), "USD", 2*i+2)
	}
	want = nil
	for i := range b {
		want = append(want, eur(1, fmt.Sprint(100+i), i+1))
	}
	translated(t, b, want...)
	l := wrongRates()[0][:api.MaxRates]
	got, err := group.Translate(l, "EUR", []api.Balance{bal(1, "10", "AAA", 5)}, api.MaxRates)
	if err != nil || !slices.Equal(got, []api.Balance{eur(1, "10", 5)}) {
		t.Errorf("Translate by %d rates = %v, %v", len(l), got, err)
	}
}
