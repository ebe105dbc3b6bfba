package accrue_test

import (
	"reflect"
	"slices"
	"strconv"
	"strings"
	"testing"

	"quarterday/accrue"
	"quarterday/api"
	"quarterday/entry"
	"quarterday/plain"
)

// spread is a plan that has only what Part asks.
func spread(amount, first, periods int) api.Plan {
	return api.Plan{Amount: amount, First: first, Periods: periods}
}

// part fails the test where Part is not that.
func part(t *testing.T, p api.Plan, period, want int, bad api.Errno) {
	t.Helper()
	got, err := accrue.Part(p, period)
	if got != want || plain.Told(err) != bad {
		t.Errorf("Part of %v in %d = %d, %v, want %d, %v", p, period, got, err, want, bad)
	}
}

// parts fails the test where a plan's parts, from its first on, are not those, or where there is something ahead of or behind them.
func parts(t *testing.T, p api.Plan, want ...int) {
	t.Helper()
	for period := 1; period <= api.MaxPeriod; period++ {
		n, at := 0, period-p.First
		if at >= 0 && at < len(want) {
			n = want[at]
		}
		part(t, p, period, n, api.OK)
	}
}

// negated has all numbers negated.
func negated(l []int) (n []int) {
	for _, x := range l {
		n = append(n, -x)
	}
	return n
}

func TestP1Part(t *testing.T) {
	for _, c := range []struct {
		amount, periods int
		want            []int
	}{
		{1, 1, []int{1}},
		{10, 1, []int{10}},
		{10, 2, []int{5, 5}},
		{10, 3, []int{3, 3, 4}},      // 3 6 10
		{11, 3, []int{3, 4, 4}},      // 3 7 11
		{8, 3, []int{2, 3, 3}},       // 2 5 8
		{7, 4, []int{1, 2, 2, 2}},    // 1 3 5 7
		{1, 3, []int{0, 0, 1}},       // parts of 0 ahead of all of it
		{2, 5, []int{0, 0, 1, 0, 1}}, // and between
		{100, 7, []int{14, 14, 14, 15, 14, 14, 15}},
		{big15, 1, []int{big15}},
		{big15, 2, []int{big15 / 2, big15 / 2}},
		{big15, 3, []int{333333333333333, 333333333333333, 333333333333334}},
		{big15 - 1, 2, []int{big15/2 - 1, big15 / 2}},
	} {
		for _, first := range []int{1, 2, 60, 113} {
			parts(t, spread(c.amount, first, c.periods), c.want...)
			parts(t, spread(-c.amount, first, c.periods), negated(c.want)...) // rounded to 0, so alike on either side
		}
	}
}

// TestP1OnlySpread: a plan of which only the Amount, First and Periods count.
func TestP1OnlySpread(t *testing.T) {
	p := api.Plan{Ref: "NO REF", Entity: -4, From: "x", To: "x", Cur: "none", Amount: 10, First: 2, Periods: 3}
	parts(t, p, 3, 3, 4)
	part(t, p, 121, 0, api.ErrRange)
}

// TestP1Around: a period ahead of First, the first, the last, and the one behind it.
func TestP1Around(t *testing.T) {
	p := spread(10, 5, 3)
	for period, want := range map[int]int{1: 0, 4: 0, 5: 3, 6: 3, 7: 4, 8: 0, 120: 0} {
		part(t, p, period, want, api.OK)
	}
	parts(t, spread(9, 1, 1), 9)
	parts(t, spread(9, 120, 1), 9)
	part(t, spread(9, 1, 120), 120, 1, api.OK)
}

// TestP1PastTheEnd: a plan that ends behind MaxPeriod has those parts that are up to it.
func TestP1PastTheEnd(t *testing.T) {
	parts(t, spread(10, 120, 3), 3)
	parts(t, spread(10, 119, 3), 3, 3)
	parts(t, spread(10, 118, 3), 3, 3, 4)
	parts(t, spread(240, 120, 120), 2)
	parts(t, spread(-1, 120, 120))
	parts(t, spread(big15, 120, 120), 8333333333333)
}

// TestP1Together: all parts are all of it, and each is the whole part of what is even, or one more.
func TestP1Together(t *testing.T) {
	for _, amount := range []int{1, 2, 7, 59, 119, 120, 121, 239, 1000, 999_999_937, big15 - 1, big15} {
		for periods := 1; periods <= api.MaxPeriod; periods++ {
			for _, sign := range []int{1, -1} {
				sum := 0
				for period := 1; period <= periods; period++ {
					n, err := accrue.Part(spread(sign*amount, 1, periods), period)
					sum += n
					if more := sign*n - amount/periods; err != nil || more < 0 || more > 1 {
						t.Fatalf("Part of %d over %d in %d = %d, %v", sign*amount, periods, period, n, err)
					}
					if done := sign * amount * period / periods; sum != done { // rounded to 0
						t.Fatalf("Parts of %d over %d up to %d are %d, want %d", sign*amount, periods, period, sum, done)
					}
				}
				if sum != sign*amount {
					t.Fatalf("Parts of %d over %d are %d", sign*amount, periods, sum)
				}
			}
		}
	}
}

func TestP1PartRange(t *testing.T) {
	for _, n := range []int{0, big15 + 1, -big15 - 1, most, least} {
		part(t, spread(n, 1, 1), 1, 0, api.ErrRange)
		part(t, spread(n, 2, 1), 1, 0, api.ErrRange) // where the part would be 0 too
		part(t, spread(n, 1, 120), 120, 0, api.ErrRange)
	}
	for _, n := range []int{1, -1, big15, -big15} {
		part(t, spread(n, 1, 1), 1, n, api.OK)
	}
	for _, n := range []int{0, -1, 121, most, least} {
		part(t, spread(5, n, 1), 1, 0, api.ErrRange)
		part(t, spread(5, n, 1), 120, 0, api.ErrRange)
		part(t, spread(5, 1, n), 1, 0, api.ErrRange)
		part(t, spread(5, 120, n), 1, 0, api.ErrRange)
		part(t, spread(5, 1, 1), n, 0, api.ErrRange)
		part(t, spread(5, 120, 120), n, 0, api.ErrRange)
	}
	for _, n := range []int{1, 120} {
		part(t, spread(5, n, 1), n, 5, api.OK)
		part(t, spread(5, 1, n), n, (5+n-1)/n, api.OK)
		part(t, spread(5, 1, 1), n, 5/n, api.OK)
	}
	part(t, api.Plan{}, 0, 0, api.ErrRange)
}

// made is the entry of a plan of euros from 500000 to 2 of entity 1.
func made(ref string, period, amount int) api.Entry {
	return api.Entry{Ref: ref, Entity: 1, Period: period, Lines: []api.Line{{Account: "500000", Cur: "EUR", Amount: amount}, {Account: "2", Cur: "EUR", Amount: -amount}}}
}

// entries fails the test where Entries are not those that are wanted, or are none that chapter 4 takes.
func entries(t *testing.T, l []api.Plan, entity, period int, want ...api.Entry) {
	t.Helper()
	got, err := accrue.Entries(house(), l, entity, period)
	if err != nil || len(got) != len(want) || len(want) > 0 && !reflect.DeepEqual(got, want) {
		t.Errorf("Entries of %s of %d in %d = %s, %v, want %s", short(l), entity, period, short(got), err, short(want))
	}
	for _, e := range got {
		if err := entry.Check(house(), e); err != nil {
			t.Errorf("entry %s: %v", short(e), err)
		}
	}
}

func TestP2Entries(t *testing.T) {
	l := []api.Plan{good()} // 10 over 3, from 2 on
	entries(t, l, 1, 1)
	entries(t, l, 1, 2, made("rent-2", 2, 3))
	entries(t, l, 1, 3, made("rent-3", 3, 3))
	entries(t, l, 1, 4, made("rent-4", 4, 4))
	entries(t, l, 1, 5)
	entries(t, l, 1, 120)
	l[0].Amount = -10
	entries(t, l, 1, 4, made("rent-4", 4, -4))
	other := api.Plan{Ref: "0", Entity: 12, From: "11", To: "4", Cur: "USD", Amount: big15, First: 120, Periods: 1}
	entries(t, []api.Plan{other}, 12, 120, api.Entry{Ref: "0-120", Entity: 12, Period: 120, Lines: []api.Line{{Account: "11", Cur: "USD", Amount: big15}, {Account: "4", Cur: "USD", Amount: -big15}}})
	other.Amount = -big15
	entries(t, []api.Plan{other}, 12, 120, api.Entry{Ref: "0-120", Entity: 12, Period: 120, Lines: []api.Line{{Account: "11", Cur: "USD", Amount: -big15}, {Account: "4", Cur: "USD", Amount: big15}}})
}

func TestP2NoPlan(t *testing.T) {
	for _, l := range [][]api.Plan{nil, {}} {
		for entity := 1; entity <= api.MaxEntity; entity++ {
			entries(t, l, entity, 1)
			entries(t, l, entity, 120)
		}
	}
	for _, c := range [][]api.Account{nil, {}} {
		if got, err := accrue.Entries(c, nil, 1, 1); err != nil || len(got) != 0 {
			t.Errorf("Entries of nothing = %v, %v", got, err)
		}
	}
}

// TestP2Others: plans of another entity, ahead of, between and behind those that are its own.
func TestP2Others(t *testing.T) {
	l := goods(12)
	for i := range l {
		l[i].Entity = i + 1
	}
	for i := range l {
		e := made(l[i].Ref+"-2", 2, 3)
		e.Entity = i + 1
		entries(t, l, i+1, 2, e)
		entries(t, slices.Delete(slices.Clone(l), i, i+1), i+1, 2)
	}
	l = goods(5)
	l[0].Entity, l[2].Entity, l[4].Entity = 2, 11, 12
	entries(t, l, 1, 4, made("p1-4", 4, 4), made("p3-4", 4, 4))
}

// TestP2NoPart: none for a plan whose part is 0, ahead of First, behind the last, or between.
func TestP2NoPart(t *testing.T) {
	l := goods(4)
	l[0].Amount, l[0].First, l[0].Periods = 2, 1, 5 // 0 0 1 0 1
	l[1].Amount, l[1].First, l[1].Periods = -1, 1, 3
	l[2].Amount, l[2].First, l[2].Periods = 7, 4, 1
	l[3].Amount, l[3].First, l[3].Periods = 3, 1, 3
	entries(t, l, 1, 1, made("p3-1", 1, 1))
	entries(t, l, 1, 2, made("p3-2", 2, 1))
	entries(t, l, 1, 3, made("p0-3", 3, 1), made("p1-3", 3, -1), made("p3-3", 3, 1))
	entries(t, l, 1, 4, made("p2-4", 4, 7))
	entries(t, l, 1, 5, made("p0-5", 5, 1))
	entries(t, l, 1, 6)
}

// TestP2Order: entries stand as the plans do, not by their Refs.
func TestP2Order(t *testing.T) {
	l := goods(api.MaxRules)
	slices.Reverse(l)
	l[3].Ref, l[17].Ref = "z", "0"
	var want []api.Entry
	for _, p := range l {
		want = append(want, made(p.Ref+"-4", 4, 4))
	}
	entries(t, l, 1, 4, want...)
}

// TestP2EntryRef: the plan's, of 8 signs too, and periods of one digit to three.
func TestP2EntryRef(t *testing.T) {
	for _, ref := range []string{"a", "7", "12345678", "abcdefgh"} {
		for period := 1; period <= api.MaxPeriod; period++ {
			p := with(func(p *api.Plan) { p.Ref, p.First, p.Periods, p.Amount = ref, 1, 120, 120 })
			entries(t, []api.Plan{p}, 1, period, made(strings.Join([]string{ref, strconv.Itoa(period)}, "-"), period, 1))
		}
	}
}

// TestP2EntriesRange: entity and period just at and just past their bounds.
func TestP2EntriesRange(t *testing.T) {
	for _, l := range [][]api.Plan{nil, {good()}} {
		for _, n := range [][2]int{{0, 2}, {-1, 2}, {13, 2}, {most, 2}, {least, 2}, {1, 0}, {1, -1}, {1, 121}, {1, most}, {1, least}, {0, 0}, {13, 121}} {
			got, err := accrue.Entries(house(), l, n[0], n[1])
			if plain.Told(err) != api.ErrRange || len(got) != 0 {
				t.Errorf("Entries of %v of %d in %d = %v, %v", l, n[0], n[1], got, err)
			}
		}
		entries(t, l, 1, 1)
		entries(t, l, 12, 120)
		entries(t, l, 12, 1)
		entries(t, l, 1, 120)
	}
}
