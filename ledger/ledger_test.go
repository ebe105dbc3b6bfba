package ledger_test

import (
	"fmt"
	"math"
	"slices"
	"testing"

	"quarterday/api"
	"quarterday/ledger"
	"quarterday/plain"
)

const (
	most  = math.MaxInt
	least = math.MinInt
	big15 = api.MaxAmount
	big18 = 1_000_000_000_000_000_000
)

// told fails the test where an error is not the one that is wanted.
func told(t *testing.T, what string, err error, want api.Errno) {
	t.Helper()
	if got := plain.Told(err); got != want {
		t.Errorf("%.200s: error %v, want %v", what, got, want)
	}
}

// line makes one.
func line(account, cur string, amount int) api.Line {
	return api.Line{Account: account, Cur: cur, Amount: amount}
}

// ent makes an entry.
func ent(entity, period int, l ...api.Line) api.Entry {
	return api.Entry{Entity: entity, Period: period, Lines: l}
}

// bal makes a balance.
func bal(entity int, account, cur string, amount int) api.Balance {
	return api.Balance{Entity: entity, Account: account, Cur: cur, Amount: amount}
}

// balances fails the test where Balances are not those that are wanted.
func balances(t *testing.T, l []api.Entry, period int, want ...api.Balance) {
	t.Helper()
	got, err := ledger.Balances(l, period)
	if err != nil || !slices.Equal(got, want) {
		t.Errorf("Balances of %.300v up to %d = %.300v, %v, want %.300v", l, period, got, err, want)
	}
}

// trial fails the test where Trial is not what is wanted.
func trial(t *testing.T, l []api.Entry, entity, period int, want ...api.Balance) {
	t.Helper()
	got, err := ledger.Trial(l, entity, period)
	if err != nil || !slices.Equal(got, want) {
		t.Errorf("Trial of %.300v of %d in %d = %.300v, %v, want %.300v", l, entity, period, got, err, want)
	}
}

// refused fails the test where Balances or Trial do not tell that error alone.
func refused(t *testing.T, l []api.Entry, entity, period int, want api.Errno) {
	t.Helper()
	got, err := ledger.Balances(l, period)
	if plain.Told(err) != want || len(got) != 0 {
		t.Errorf("Balances of %d entries up to %d = %.100v, %v, want %v alone", len(l), period, got, err, want)
	}
	got, err = ledger.Trial(l, entity, period)
	if plain.Told(err) != want || len(got) != 0 {
		t.Errorf("Trial of %d entries of %d in %d = %.100v, %v, want %v alone", len(l), entity, period, got, err, want)
	}
}

// several are entries of periods 2, 3 and 5, not in their order.
func several() []api.Entry {
	return []api.Entry{
		ent(2, 3, line("40", "EUR", -30), line("10", "EUR", 30)),
		ent(1, 5, line("10", "USD", 500), line("40", "USD", -500)),
		ent(2, 2, line("10", "EUR", 2), line("40", "EUR", -2)),
		ent(1, 3, line("40", "EUR", -7), line("10", "EUR", 7)),
		ent(2, 3, line("10", "EUR", 1), line("20", "EUR", -1)),
	}
}

func TestG1NoEntries(t *testing.T) {
	for _, l := range [][]api.Entry{nil, {}, {ent(0, 0)}, {ent(1, 1), ent(1, 1, []api.Line{}...)}} {
		for _, n := range []int{0, 1, -1, most, least} {
			balances(t, l, n)
			trial(t, l, n, n)
		}
	}
}

func TestG1BalancesPeriods(t *testing.T) {
	first := []api.Balance{bal(2, "10", "EUR", 2), bal(2, "40", "EUR", -2)}
	second := []api.Balance{bal(1, "10", "EUR", 7), bal(1, "40", "EUR", -7), bal(2, "10", "EUR", 33), bal(2, "20", "EUR", -1), bal(2, "40", "EUR", -32)}
	all := []api.Balance{bal(1, "10", "EUR", 7), bal(1, "10", "USD", 500), bal(1, "40", "EUR", -7), bal(1, "40", "USD", -500), bal(2, "10", "EUR", 33), bal(2, "20", "EUR", -1), bal(2, "40", "EUR", -32)}
	for period, want := range map[int][]api.Balance{
		least: nil, -1: nil, 0: nil, 1: nil, // below the first
		2: first, 3: second, 4: second, // at one, and between
		5: all, 6: all, 120: all, 121: all, most: all, // at the last, and behind it
	} {
		balances(t, several(), period, want...)
	}
}

// TestG1BalancesAnyNumbers: entries may be of any entity and period, and have any text.
func TestG1BalancesAnyNumbers(t *testing.T) {
	l := []api.Entry{
		ent(most, most, line("", "", 1)),
		ent(least, least, line("\xff", "\x00", 2)),
		ent(0, 0, line("a b", "euro", 3)),
		ent(-1, -1, line("", "EUR", 4)),
	}
	balances(t, l, least, bal(least, "\xff", "\x00", 2))
	balances(t, l, -2, bal(least, "\xff", "\x00", 2))
	balances(t, l, -1, bal(least, "\xff", "\x00", 2), bal(-1, "", "EUR", 4))
	balances(t, l, 0, bal(least, "\xff", "\x00", 2), bal(-1, "", "EUR", 4), bal(0, "a b", "euro", 3))
	balances(t, l, most, bal(least, "\xff", "\x00", 2), bal(-1, "", "EUR", 4), bal(0, "a b", "euro", 3), bal(most, "", "", 1))
	trial(t, l, most, most, bal(most, "", "", 1))
	trial(t, l, least, least, bal(least, "\xff", "\x00", 2))
	trial(t, l, 0, 0, bal(0, "a b", "euro", 3))
	trial(t, l, -1, -1, bal(-1, "", "EUR", 4))
}

// TestG1Trial: of just that entity and period; 0 is no other number than the rest.
func TestG1Trial(t *testing.T) {
	l := several()
	trial(t, l, 2, 2, bal(2, "10", "EUR", 2), bal(2, "40", "EUR", -2))
	trial(t, l, 2, 3, bal(2, "10", "EUR", 31), bal(2, "20", "EUR", -1), bal(2, "40", "EUR", -30)) // without what was ahead
	trial(t, l, 1, 3, bal(1, "10", "EUR", 7), bal(1, "40", "EUR", -7))
	trial(t, l, 1, 5, bal(1, "10", "USD", 500), bal(1, "40", "USD", -500))
	for _, none := range [][2]int{{1, 2}, {2, 5}, {3, 3}, {2, 1}, {2, 4}, {1, 4}, {1, 6}, {0, 3}, {2, 0}, {0, 0}, {-1, 3}, {5, 1}, {most, most}, {least, 3}, {2, least}, {2, most}} {
		trial(t, l, none[0], none[1])
	}
}

// TestG1AnyOrder: the order of entries, and of their lines, is not to be seen.
func TestG1AnyOrder(t *testing.T) {
	l := []api.Entry{
		ent(1, 1, line("10", "EUR", 1), line("20", "USD", 2), line("10", "USD", 3)),
		ent(1, 1, line("20", "USD", 4), line("10", "EUR", -5)),
		ent(2, 1, line("10", "EUR", 6)),
		ent(1, 1, line("10", "USD", -3)),
	}
	one := []api.Balance{bal(1, "10", "EUR", -4), bal(1, "20", "USD", 6)}
	orders(l, func(l []api.Entry) {
		for i := range l {
			l[i].Lines = slices.Clone(l[i].Lines)
			slices.Reverse(l[i].Lines)
		}
		balances(t, l, 1, append(one[:2:2], bal(2, "10", "EUR", 6))...)
		trial(t, l, 1, 1, one...)
	})
}

// orders does something with each order of a list.
func orders[T any](l []T, do func([]T)) {
	var from func(i int)
	from = func(i int) {
		if i == len(l) {
			do(slices.Clone(l))
			return
		}
		for j := i; j < len(l); j++ {
			l[i], l[j] = l[j], l[i]
			from(i + 1)
			l[i], l[j] = l[j], l[i]
		}
	}
	from(0)
}

// TestG1Order: by Entity as a number, then by Account, then by Cur, as bytes.
func TestG1Order(t *testing.T) {
	want := []api.Balance{
		bal(-10, "9", "Z", 1), bal(-9, "1", "Z", 1), bal(0, "z", "z", 1),
		bal(2, "", "", 1), bal(2, "", "Z", 1), bal(2, "1", "\xff", 1), bal(2, "10", "", 1), bal(2, "10", "A", 1), bal(2, "10", "AA", 1), bal(2, "10", "B", 1), bal(2, "10", "a", 1),
		bal(2, "100", "A", 1), bal(2, "11", "A", 1), bal(2, "2", "A", 1), bal(2, "A", "A", 1), bal(2, "a", "A", 1), bal(2, "\x7f", "A", 1), bal(2, "\u00e4", "A", 1), bal(2, "\xff", "A", 1),
		bal(10, "1", "A", 1), bal(12, "", "A", 1),
	}
	for _, step := range []int{1, 2, 4, 5, 8, 10} { // 21 of them: each is met, in another order
		var l []api.Entry
		for i := range want {
			b := want[i*step%len(want)]
			l = append(l, ent(b.Entity, 1, line(b.Account, b.Cur, b.Amount)))
		}
		balances(t, l, 1, want...)
		trial(t, l, 2, 1, want[3:19]...)
	}
}

// TestG1Apart: what is of another entity, account or currency is another balance, whatever the texts are together.
func TestG1Apart(t *testing.T) {
	l := []api.Entry{
		ent(1, 1, line("1", "0EUR", 1), line("10", "EUR", 2), line("10E", "UR", 3), line("", "10EUR", 4), line("10EUR", "", 5), line("10", "eur", 6)),
		ent(11, 1, line("0", "EUR", 7)),
	}
	one := []api.Balance{bal(1, "", "10EUR", 4), bal(1, "1", "0EUR", 1), bal(1, "10", "EUR", 2), bal(1, "10", "eur", 6), bal(1, "10E", "UR", 3), bal(1, "10EUR", "", 5)}
	balances(t, l, 1, append(one[:6:6], bal(11, "0", "EUR", 7))...)
	trial(t, l, 1, 1, one...)
}

// TestG1Zero: sums of 0 are left out.
func TestG1Zero(t *testing.T) {
	l := []api.Entry{
		ent(1, 1, line("10", "EUR", 7), line("10", "EUR", -7), line("20", "EUR", 0)), // in one entry, and in one line
		ent(1, 1, line("30", "EUR", big15), line("40", "EUR", -9)),
		ent(1, 1, line("30", "EUR", -big15), line("40", "EUR", 10)), // over entries
		ent(1, 2, line("40", "EUR", -1)),                            // over periods
		ent(2, 2, line("40", "EUR", 1)),                             // not over entities
	}
	balances(t, l, 1, bal(1, "40", "EUR", 1))
	balances(t, l, 2, bal(2, "40", "EUR", 1))
	trial(t, l, 1, 1, bal(1, "40", "EUR", 1))
	trial(t, l, 1, 2, bal(1, "40", "EUR", -1))
	balances(t, l[:1], 1)
	trial(t, l[:1], 1, 1)
}

// TestG1EntriesNeedNotBeRight: what chapter 4 finds wrong with an entry is not asked here.
func TestG1EntriesNeedNotBeRight(t *testing.T) {
	l := []api.Entry{
		{Ref: "same", Entity: 1, Period: 1, Lines: []api.Line{line("10", "EUR", 5)}},                                         // not even, one line
		{Ref: "same", Entity: 1, Period: 1, Lines: slices.Repeat([]api.Line{line("10", "EUR", 1)}, api.MaxLines+1)},          // more than may be
		{Ref: "-Bad-", Entity: 13, Period: 121, Lines: []api.Line{line("x", "x", 1)}},                                        // no Ref, Entity, Period, account
		{Ref: "", Entity: 1, Period: 1, Lines: slices.Repeat([]api.Line{line("10", "EUR", 1), line("10", "EUR", -1)}, 1000)}, // many
	}
	balances(t, l, 1, bal(1, "10", "EUR", 26))
	balances(t, l, 121, bal(1, "10", "EUR", 26), bal(13, "x", "x", 1))
	trial(t, l, 1, 1, bal(1, "10", "EUR", 26))
	trial(t, l, 13, 121, bal(13, "x", "x", 1))
}

// TestG1MaxEntries: as many as may be, and one more, whether they count or not.
func TestG1MaxEntries(t *testing.T) {
	of := func(n, period int) []api.Entry {
		return slices.Repeat([]api.Entry{ent(1, period, line("10", "EUR", 1))}, n)
	}
	for _, n := range []int{1, 2, api.MaxEntries - 1, api.MaxEntries} {
		balances(t, of(n, 1), 1, bal(1, "10", "EUR", n))
		trial(t, of(n, 1), 1, 1, bal(1, "10", "EUR", n))
		balances(t, of(n, 2), 1)
		trial(t, of(n, 2), 1, 1)
	}
	for _, n := range []int{api.MaxEntries + 1, api.MaxEntries + 2, 1000, 100_000} {
		refused(t, of(n, 1), 1, 1, api.ErrFull)
		refused(t, of(n, 2), 1, 1, api.ErrFull)
		refused(t, make([]api.Entry, n), 0, 0, api.ErrFull)
	}
}

// TestG1MaxAmount: at the edge and past it, in whatever entry and line.
func TestG1MaxAmount(t *testing.T) {
	for _, amount := range []int{big15, -big15, big15 - 1, 1 - big15} {
		l := []api.Entry{ent(1, 1, line("10", "EUR", amount)), ent(1, 2, line("20", "EUR", amount)), ent(2, 1, line("10", "EUR", amount))}
		balances(t, l, 1, bal(1, "10", "EUR", amount), bal(2, "10", "EUR", amount))
		trial(t, l, 1, 1, bal(1, "10", "EUR", amount))
	}
	for _, amount := range []int{big15 + 1, -big15 - 1, big18, -big18, 1 << 62, most, least + 1, least} {
		bad := line("10", "EUR", amount)
		for at := range 3 { // in each line of an entry
			lines := slices.Insert([]api.Line{line("10", "EUR", 1), line("10", "EUR", -1)}, at, bad)
			refused(t, []api.Entry{ent(1, 1, lines...)}, 1, 1, api.ErrRange)
		}
		for at := range 6 { // in each entry
			refused(t, slices.Insert(several(), at, ent(2, 3, bad)), 2, 3, api.ErrRange)
		}
		for _, other := range [][2]int{{1, 2}, {2, 2}, {2, most}} { // it does not count
			refused(t, []api.Entry{ent(1, 1, line("10", "EUR", 1)), ent(other[0], other[1], bad)}, 1, 1, api.ErrRange)
			refused(t, []api.Entry{ent(other[0], other[1], bad)}, 1, 1, api.ErrRange)
		}
	}
	refused(t, []api.Entry{ent(1, 1, line("10", "EUR", big15+1), line("10", "EUR", -big15-1))}, 1, 1, api.ErrRange) // 0 together
}

// TestG1Great: sums of more than an amount, and than a balance of Check, may be.
func TestG1Great(t *testing.T) {
	for _, n := range []int{2, 999, 1000, 1001, 4000, 9223} {
		for _, sign := range []int{1, -1} {
			l := []api.Entry{ent(1, 1, slices.Repeat([]api.Line{line("10", "EUR", sign*big15)}, n)...)}
			balances(t, l, 1, bal(1, "10", "EUR", sign*n*big15))
			trial(t, l, 1, 1, bal(1, "10", "EUR", sign*n*big15))
		}
	}
}

// TestG1Over: of a sum that is not of 64 bits no wrong number is told. Only what comes of it in the end counts.
func TestG1Over(t *testing.T) {
	const full, rest = 9223, most - 9223*big15 // as many of the greatest amount as fit, and what is left then
	for _, c := range []struct {
		sign, more int
		want       api.Errno
	}{
		{1, rest, api.OK}, {1, rest + 1, api.ErrOver},
		{-1, -rest, api.OK}, {-1, -rest - 1, api.OK}, {-1, -rest - 2, api.ErrOver},
	} {
		lines := append(slices.Repeat([]api.Line{line("10", "EUR", c.sign*big15)}, full), line("10", "EUR", c.more))
		l := []api.Entry{ent(1, 1, lines...)}
		if c.want != api.OK {
			refused(t, l, 1, 1, c.want)
			refused(t, append(l, ent(1, 2, line("10", "EUR", c.sign*-5))), 1, 1, c.want) // what takes it back does not count
			continue
		}
		want := bal(1, "10", "EUR", c.sign*full*big15+c.more)
		balances(t, l, 1, want)
		trial(t, l, 1, 1, want)
	}
	up, down := slices.Repeat([]api.Line{line("10", "EUR", big15)}, 30000), slices.Repeat([]api.Line{line("10", "EUR", -big15)}, 29999)
	balances(t, []api.Entry{ent(1, 1, up...), ent(1, 1, down...)}, 1, bal(1, "10", "EUR", big15))
	trial(t, []api.Entry{ent(1, 1, down...), ent(1, 1, up...)}, 1, 1, bal(1, "10", "EUR", big15))
}

// many makes lines of n accounts, of which every third comes to 0.
func many(n int) (l []api.Line) {
	for i := range n {
		l = append(l, line(fmt.Sprintf("%03d", i), "EUR", i%3))
	}
	return l
}

// manyBalances are those of many, of an entity.
func manyBalances(entity, n int) (l []api.Balance) {
	for _, x := range many(n) {
		if x.Amount != 0 {
			l = append(l, bal(entity, x.Account, x.Cur, x.Amount))
		}
	}
	return l
}

// TestG1MaxItems: as many balances as may be, and one more, those of 0 too.
func TestG1MaxItems(t *testing.T) {
	for _, n := range []int{1, 199, api.MaxItems} {
		l := []api.Entry{ent(1, 1, many(n)...), ent(1, 1, many(n)...), ent(1, 1, many(n)...), ent(1, 2, many(3*n)...), ent(2, 3, many(3*n)...)}
		for i := range 2 {
			for j := range l[i].Lines { // two of the three are 0 together
				l[i].Lines[j].Amount *= 1 - 2*i
			}
		}
		balances(t, l, 1, manyBalances(1, n)...)
		trial(t, l, 1, 1, manyBalances(1, n)...)
	}
	for _, n := range []int{api.MaxItems + 1, api.MaxItems + 2, 1000} {
		refused(t, []api.Entry{ent(1, 1, many(n)...)}, 1, 1, api.ErrFull)
		refused(t, []api.Entry{ent(1, 1, many(n-1)...), ent(1, 1, line("more", "EUR", 1))}, 1, 1, api.ErrFull)
		refused(t, []api.Entry{ent(1, 1, many(n-1)...), ent(1, 1, line("000", "USD", 0))}, 1, 1, api.ErrFull)                           // one of 0 more
		refused(t, []api.Entry{ent(1, 1, many(n-1)...), ent(1, 1, line("more", "EUR", 1), line("more", "EUR", -1))}, 1, 1, api.ErrFull) // likewise
		zero := many(n)
		for i := range zero {
			zero[i].Amount = 0
		}
		refused(t, []api.Entry{ent(1, 1, zero...)}, 1, 1, api.ErrFull)         // all of 0
		balances(t, []api.Entry{ent(1, 1, zero[:api.MaxItems]...)}, 1)         // as many as may be
		trial(t, []api.Entry{ent(1, 1, zero[:api.MaxItems]...)}, 1, 1)         // likewise
		balances(t, []api.Entry{ent(1, 2, many(n)...), ent(1, 1)}, 1)          // none that does not count
		trial(t, []api.Entry{ent(1, 2, many(n)...), ent(2, 1, zero...)}, 1, 1) // likewise
	}
	l := []api.Entry{ent(1, 1, many(150)...), ent(2, 1, many(50)...), ent(3, 2, many(1)...)} // over entities
	balances(t, l, 1, append(manyBalances(1, 150), manyBalances(2, 50)...)...)
	_, err := ledger.Balances(l, 2)
	told(t, "Balances of one more", err, api.ErrFull)
	trial(t, l, 1, 1, manyBalances(1, 150)...)
	trial(t, l, 3, 2)
}

// TestG1Which: the error that is named first is told.
func TestG1Which(t *testing.T) {
	bad, some := ent(9, 9, line("10", "EUR", big15+1)), ent(1, 1, line("10", "EUR", 1))
	over := ent(1, 1, slices.Repeat([]api.Line{line("10", "EUR", big15)}, 9224)...)
	wide := ent(1, 1, many(api.MaxItems+1)...)
	entries := slices.Repeat([]api.Entry{some}, api.MaxEntries)
	refused(t, append([]api.Entry{bad}, entries...), 1, 1, api.ErrFull)       // too many entries, an amount
	refused(t, append([]api.Entry{wide, bad}, entries...), 1, 1, api.ErrFull) // and too many balances
	refused(t, []api.Entry{wide, bad}, 1, 1, api.ErrRange)                    // an amount, too many balances
	refused(t, []api.Entry{bad, wide}, 1, 1, api.ErrRange)
	refused(t, append(entries[1:], bad), 1, 1, api.ErrRange) // just as many entries as may be
	refused(t, []api.Entry{over, bad}, 1, 1, api.ErrRange)
	refused(t, []api.Entry{over, wide}, 1, 1, api.ErrFull)
	refused(t, []api.Entry{over, some}, 1, 1, api.ErrOver)
}
