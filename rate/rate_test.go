package rate_test

import (
	"math"
	"math/big"
	"math/rand/v2"
	"slices"
	"testing"

	"quarterday/api"
	"quarterday/plain"
	"quarterday/rate"
)

const (
	most  = math.MaxInt
	least = math.MinInt
	big9  = api.MaxRatio
)

// told fails the test where an error is not the one that is wanted.
func told(t *testing.T, what string, err error, want api.Errno) {
	t.Helper()
	if got := plain.Told(err); got != want {
		t.Errorf("%s: error %v, want %v", what, got, want)
	}
}

// one makes a rate.
func one(from, to string, period, num, den int) api.Rate {
	return api.Rate{From: from, To: to, Period: period, Num: num, Den: den}
}

// full makes n rates in which nothing is wrong but how many they may be.
func full(n int) (l []api.Rate) {
	for i := range n {
		l = append(l, one("AAA", "BA"+string(rune('A'+i/api.MaxPeriod)), 1+i%api.MaxPeriod, 2, 3))
	}
	return l
}

func TestR1Cur(t *testing.T) {
	for _, s := range []string{"EUR", "AAA", "ZZZ", "AZA"} {
		if !rate.Cur(s) {
			t.Errorf("%q is no currency", s)
		}
	}
	for _, s := range []string{
		"", "E", "EU", "EURO", "EUREUR", "eur", "EUr", "eUR", "E R", " EU", "EU ", "EU1", "@AA", "A[A", "AA[", "AA@",
		"EU\n", "EU\x00", "EU\xff", "É", "ÉA", "AÉ", "ÄÖÜ", "ＥＵＲ", "€", "\xff\xff\xff", "A.A", "A-A",
	} {
		if rate.Cur(s) {
			t.Errorf("%q is a currency", s)
		}
	}
}

// TestR1CurOfAllBytes: at each of the three places just the letters A to Z will do.
func TestR1CurOfAllBytes(t *testing.T) {
	for place := range 3 {
		for b := range 256 {
			s := []byte("QDY")
			s[place] = byte(b)
			if got, want := rate.Cur(string(s)), b >= 'A' && b <= 'Z'; got != want {
				t.Errorf("Cur(%q) = %v", s, got)
			}
		}
	}
}

func TestR1CheckTakes(t *testing.T) {
	for _, l := range [][]api.Rate{
		nil,
		{},
		{one("EUR", "USD", 1, 1, 1)},
		{one("EUR", "USD", api.MaxPeriod, big9, big9)},
		{one("EUR", "USD", 1, 10, 11), one("EUR", "USD", 2, 10, 11), one("USD", "EUR", 3, 10, 11)},
		{one("EUR", "USD", 1, 2, 3), one("EUR", "GBP", 1, 2, 3), one("GBP", "USD", 1, 2, 3)},
		full(api.MaxRates),
	} {
		told(t, "Check", rate.Check(l), api.OK)
	}
}

// wrong are rates, and what Check tells of them.
var wrong = []struct {
	l   []api.Rate
	err api.Errno
}{
	{[]api.Rate{one("EU", "USD", 1, 1, 1)}, api.ErrSyntax},
	{[]api.Rate{one("EUR", "usd", 1, 1, 1)}, api.ErrSyntax},
	{[]api.Rate{one("", "", 1, 1, 1)}, api.ErrSyntax},
	{[]api.Rate{{}}, api.ErrSyntax},
	{[]api.Rate{one("EURO", "EURO", 0, 0, 0)}, api.ErrSyntax},
	{[]api.Rate{one("EUR", "EUR", 1, 1, 1)}, api.ErrShape},
	{[]api.Rate{one("EUR", "EUR", 0, 0, 0)}, api.ErrShape},
	{[]api.Rate{one("EUR", "USD", 0, 1, 1)}, api.ErrRange},
	{[]api.Rate{one("EUR", "USD", -1, 1, 1)}, api.ErrRange},
	{[]api.Rate{one("EUR", "USD", api.MaxPeriod+1, 1, 1)}, api.ErrRange},
	{[]api.Rate{one("EUR", "USD", most, 1, 1)}, api.ErrRange},
	{[]api.Rate{one("EUR", "USD", least, 1, 1)}, api.ErrRange},
	{[]api.Rate{one("EUR", "USD", 1, 0, 1)}, api.ErrRange},
	{[]api.Rate{one("EUR", "USD", 1, 1, 0)}, api.ErrRange},
	{[]api.Rate{one("EUR", "USD", 1, -1, 1)}, api.ErrRange},
	{[]api.Rate{one("EUR", "USD", 1, 1, -1)}, api.ErrRange},
	{[]api.Rate{one("EUR", "USD", 1, big9+1, 1)}, api.ErrRange},
	{[]api.Rate{one("EUR", "USD", 1, 1, big9+1)}, api.ErrRange},
	{[]api.Rate{one("EUR", "USD", 1, most, least)}, api.ErrRange},
	// another one ahead
	{[]api.Rate{one("EUR", "USD", 1, 1, 2), one("EUR", "USD", 1, 1, 2)}, api.ErrClash},
	{[]api.Rate{one("EUR", "USD", 1, 1, 2), one("EUR", "USD", 1, 3, 4)}, api.ErrClash},
	{[]api.Rate{one("EUR", "USD", 1, 1, 2), one("USD", "EUR", 1, 2, 1)}, api.ErrClash},
	{[]api.Rate{one("USD", "EUR", 9, 1, 2), one("EUR", "USD", 9, 2, 1)}, api.ErrClash},
	{[]api.Rate{one("EUR", "USD", 1, 1, 2), one("EUR", "GBP", 1, 1, 2), one("USD", "EUR", 1, 2, 1)}, api.ErrClash},
	// what is wrong with one that clashes too is told first
	{[]api.Rate{one("EUR", "USD", 1, 1, 2), one("USD", "EUR", 1, 0, 1)}, api.ErrRange},
	// the first that has a fault, whatever the later ones have
	{[]api.Rate{one("EUR", "USD", 1, 0, 1), one("EUR", "EUR", 1, 1, 1), one("E", "USD", 1, 1, 1)}, api.ErrRange},
	{[]api.Rate{one("EUR", "EUR", 1, 1, 1), one("E", "USD", 1, 1, 1)}, api.ErrShape},
	{[]api.Rate{one("EUR", "USD", 1, 1, 1), one("EUR", "USD", 1, 1, 1), one("E", "USD", 1, 1, 1)}, api.ErrClash},
	{append(full(api.MaxRates-1), one("EUR", "USD", 121, 1, 1)), api.ErrRange},
	{append(full(api.MaxRates-1), one("BAA", "AAA", 1, 1, 1)), api.ErrClash},
	// too many, whatever else they have
	{full(api.MaxRates + 1), api.ErrFull},
	{make([]api.Rate, api.MaxRates+1), api.ErrFull},
	{append([]api.Rate{one("E", "USD", 1, 1, 1)}, full(api.MaxRates)...), api.ErrFull},
}

func TestR1CheckWrong(t *testing.T) {
	for i, c := range wrong {
		if got := plain.Told(rate.Check(c.l)); got != c.err {
			t.Errorf("%d: Check(%v) tells %v, want %v", i, c.l, got, c.err)
		}
	}
}

// both checks Find, and that Convert tells the same error.
func both(t *testing.T, l []api.Rate, base, from, to string, period, n, d int, want api.Errno) {
	t.Helper()
	gotN, gotD, err := rate.Find(l, base, from, to, period)
	if gotN != n || gotD != d || plain.Told(err) != want {
		t.Errorf("Find(%v, %q, %q, %q, %d) = %d, %d, %v, want %d, %d, %v", l, base, from, to, period, gotN, gotD, err, n, d, want)
	}
	a, err := rate.Convert(l, base, from, to, period, 0)
	if a != 0 || plain.Told(err) != want {
		t.Errorf("Convert(%v, %q, %q, %q, %d, 0) = %d, %v, want 0, %v", l, base, from, to, period, a, err, want)
	}
}

func TestR2FindTellsOfRatesFirst(t *testing.T) {
	for _, c := range wrong {
		both(t, c.l, "EUR", "EUR", "EUR", 1, 0, 0, c.err)
		both(t, c.l, "EUR", "EUR", "USD", 1, 0, 0, c.err)
		both(t, c.l, "", "eur", "€", least, 0, 0, c.err)
	}
}

func TestR2FindWrong(t *testing.T) {
	l := []api.Rate{one("EUR", "USD", 1, 10, 11)}
	for _, w := range [][3]string{
		{"", "EUR", "USD"}, {"EUR", "", "USD"}, {"EUR", "EUR", ""}, {"eur", "EUR", "EUR"}, {"EUR", "EU", "EU"}, {"EURO", "EUR", "USD"},
	} {
		for _, period := range []int{1, 0, api.MaxPeriod + 1} {
			both(t, l, w[0], w[1], w[2], period, 0, 0, api.ErrSyntax)
		}
	}
	for _, period := range []int{0, -1, api.MaxPeriod + 1, most, least} {
		both(t, l, "EUR", "EUR", "USD", period, 0, 0, api.ErrRange)
		both(t, l, "EUR", "EUR", "EUR", period, 0, 0, api.ErrRange)
		both(t, nil, "EUR", "GBP", "JPY", period, 0, 0, api.ErrRange)
	}
}

func TestR2FindOfOne(t *testing.T) {
	for _, l := range [][]api.Rate{nil, {one("EUR", "USD", 1, 10, 11)}, full(api.MaxRates)} {
		for _, cur := range []string{"EUR", "USD", "XXX"} {
			both(t, l, "EUR", cur, cur, 1, 1, 1, api.OK)
			both(t, l, "EUR", cur, cur, api.MaxPeriod, 1, 1, api.OK)
		}
	}
}

// TestR2FindDirect: a rate of both is taken as it is, with what divides its numbers, and goes ahead of those by the base.
func TestR2FindDirect(t *testing.T) {
	l := []api.Rate{
		one("EUR", "USD", 1, 6, 9),
		one("EUR", "USD", 2, 3, 5),
		one("USD", "EUR", api.MaxPeriod, big9, 2),
		one("EUR", "GBP", 1, 7, 8),
		one("GBP", "USD", 1, 4, 10),
	}
	both(t, l, "EUR", "EUR", "USD", 1, 6, 9, api.OK)
	both(t, l, "EUR", "USD", "EUR", 1, 9, 6, api.OK)
	both(t, l, "EUR", "EUR", "USD", 2, 3, 5, api.OK)
	both(t, l, "EUR", "USD", "EUR", 2, 5, 3, api.OK)
	both(t, l, "JPY", "EUR", "USD", api.MaxPeriod, 2, big9, api.OK)
	both(t, l, "JPY", "USD", "EUR", api.MaxPeriod, big9, 2, api.OK)
	both(t, l, "EUR", "GBP", "USD", 1, 4, 10, api.OK)
	both(t, l, "EUR", "USD", "GBP", 1, 10, 4, api.OK)
	both(t, l, "GBP", "EUR", "USD", 1, 6, 9, api.OK)
	both(t, l, "EUR", "EUR", "USD", 3, 0, 0, api.ErrNone)
	both(t, l, "EUR", "GBP", "USD", 2, 0, 0, api.ErrNone)
	both(t, full(api.MaxRates), "EUR", "AAA", "BAA", api.MaxRates, 2, 3, api.OK)
}

func TestR2FindByBase(t *testing.T) {
	// each of the two rates in either order: 2 USD are 3 EUR, 4 EUR are 10 GBP
	for _, in := range []api.Rate{one("USD", "EUR", 5, 2, 3), one("EUR", "USD", 5, 3, 2)} {
		for _, out := range []api.Rate{one("EUR", "GBP", 5, 4, 10), one("GBP", "EUR", 5, 10, 4)} {
			for _, l := range [][]api.Rate{{in, out}, {out, in}} {
				both(t, l, "EUR", "USD", "GBP", 5, 4, 15, api.OK)
				both(t, l, "EUR", "GBP", "USD", 5, 15, 4, api.OK)
				both(t, l, "EUR", "USD", "GBP", 4, 0, 0, api.ErrNone)
				both(t, l, "JPY", "USD", "GBP", 5, 0, 0, api.ErrNone)
				both(t, l, "USD", "USD", "GBP", 5, 0, 0, api.ErrNone)
				both(t, l, "GBP", "USD", "GBP", 5, 0, 0, api.ErrNone)
				both(t, l, "USD", "EUR", "GBP", 5, 4, 10, api.OK)
				both(t, l, "EUR", "USD", "JPY", 5, 0, 0, api.ErrNone)
				both(t, l, "EUR", "JPY", "GBP", 5, 0, 0, api.ErrNone)
			}
		}
	}
	// both rates must be of the period
	l := []api.Rate{one("USD", "EUR", 1, 2, 3), one("EUR", "GBP", 2, 4, 10)}
	both(t, l, "EUR", "USD", "GBP", 1, 0, 0, api.ErrNone)
	both(t, l, "EUR", "USD", "GBP", 2, 0, 0, api.ErrNone)
	// no more than two rates are put together
	l = []api.Rate{one("USD", "EUR", 1, 2, 3), one("EUR", "GBP", 1, 4, 10), one("GBP", "JPY", 1, 1, 2)}
	both(t, l, "EUR", "USD", "JPY", 1, 0, 0, api.ErrNone)
	both(t, nil, "EUR", "USD", "JPY", 1, 0, 0, api.ErrNone)
}

func TestR2FindOver(t *testing.T) {
	for _, c := range []struct {
		in, out api.Rate
		n, d    int
		err     api.Errno
	}{
		{one("USD", "EUR", 1, big9, big9), one("EUR", "GBP", 1, big9, big9), 1, 1, api.OK},
		{one("USD", "EUR", 1, big9, 1), one("EUR", "GBP", 1, 1, big9), 1, 1, api.OK},
		{one("USD", "EUR", 1, big9, 1), one("EUR", "GBP", 1, 1, 1), big9, 1, api.OK},
		{one("USD", "EUR", 1, 1, big9), one("EUR", "GBP", 1, 1, 1), 1, big9, api.OK},
		{one("USD", "EUR", 1, big9, 1), one("EUR", "GBP", 1, 3, 3), big9, 1, api.OK},
		{one("USD", "EUR", 1, big9/2, 1), one("EUR", "GBP", 1, 2, 7), big9, 7, api.OK},
		{one("USD", "EUR", 1, 999999937, 2), one("EUR", "GBP", 1, 4, 999999937), 2, 1, api.OK},
		{one("USD", "EUR", 1, big9, 1), one("EUR", "GBP", 1, 2, 1), 0, 0, api.ErrOver},
		{one("USD", "EUR", 1, 1, big9), one("EUR", "GBP", 1, 1, 2), 0, 0, api.ErrOver},
		{one("USD", "EUR", 1, big9, 1), one("EUR", "GBP", 1, big9, 1), 0, 0, api.ErrOver},
		{one("USD", "EUR", 1, 1, big9), one("EUR", "GBP", 1, 1, big9), 0, 0, api.ErrOver},
		{one("USD", "EUR", 1, 500000001, 3), one("EUR", "GBP", 1, 2, 1), 333333334, 1, api.OK},
		{one("USD", "EUR", 1, 500000001, 7), one("EUR", "GBP", 1, 2, 1), 0, 0, api.ErrOver},
		{one("USD", "EUR", 1, 7, 500000001), one("EUR", "GBP", 1, 1, 2), 0, 0, api.ErrOver},
	} {
		both(t, []api.Rate{c.in, c.out}, "EUR", "USD", "GBP", 1, c.n, c.d, c.err)
		both(t, []api.Rate{c.in, c.out}, "EUR", "GBP", "USD", 1, c.d, c.n, c.err)
	}
}

func TestR2Convert(t *testing.T) {
	l := []api.Rate{
		one("EUR", "USD", 1, 10, 11),
		one("EUR", "GBP", 1, 2, 1),
		one("EUR", "JPY", 2, 1, big9),
		one("EUR", "USD", 3, 2, 2),
	}
	for _, c := range []struct {
		from, to             string
		period, amount, want int
		err                  api.Errno
	}{
		{"EUR", "USD", 1, 100, 110, api.OK},
		{"USD", "EUR", 1, 110, 100, api.OK},
		{"USD", "EUR", 1, 100, 91, api.OK},
		{"EUR", "USD", 1, -100, -110, api.OK},
		{"EUR", "USD", 1, 5, 6, api.OK},   // 5 1/2 to the even one
		{"EUR", "USD", 1, 15, 16, api.OK}, // 16 1/2 too
		{"EUR", "GBP", 1, 1, 0, api.OK},
		{"EUR", "GBP", 1, 3, 2, api.OK},
		{"EUR", "GBP", 1, -3, -2, api.OK},
		{"EUR", "GBP", 1, -5, -2, api.OK},
		{"USD", "GBP", 1, 11, 5, api.OK}, // 11 USD are 5 GBP
		{"GBP", "USD", 1, 5, 11, api.OK},
		{"USD", "GBP", 1, 110, 50, api.OK},
		{"EUR", "USD", 1, 0, 0, api.OK},
		{"EUR", "EUR", 1, most, most, api.OK},
		{"XXX", "XXX", 9, least, least, api.OK},
		{"EUR", "USD", 3, most, most, api.OK},
		{"USD", "EUR", 3, least, least, api.OK},
		{"GBP", "EUR", 1, most, 0, api.ErrOver},
		{"GBP", "EUR", 1, least, 0, api.ErrOver},
		{"GBP", "EUR", 1, most / 2, most - 1, api.OK},
		{"GBP", "EUR", 1, least / 2, least, api.OK},
		{"EUR", "JPY", 2, 1 << 40, 0, api.ErrOver},
		{"EUR", "JPY", 2, 5, 5 * big9, api.OK},
		{"JPY", "EUR", 2, 5 * big9, 5, api.OK},
		{"JPY", "EUR", 2, big9 / 2, 0, api.OK},
		{"JPY", "EUR", 2, big9/2 + 1, 1, api.OK},
		{"JPY", "USD", 2, 7, 0, api.ErrNone},
		{"JP", "USD", 2, 7, 0, api.ErrSyntax},
		{"JPY", "USD", 0, 7, 0, api.ErrRange},
		{"EUR", "EUR", 0, 7, 0, api.ErrRange},
	} {
		got, err := rate.Convert(l, "EUR", c.from, c.to, c.period, c.amount)
		if got != c.want || plain.Told(err) != c.err {
			t.Errorf("Convert(%q, %q, %d, %d) = %d, %v, want %d, %v", c.from, c.to, c.period, c.amount, got, err, c.want, c.err)
		}
	}
	for _, c := range wrong {
		for _, amount := range []int{1, most, least} {
			got, err := rate.Convert(c.l, "EUR", "EUR", "EUR", 1, amount)
			told(t, "Convert", err, c.err)
			if got != 0 {
				t.Errorf("Convert = %d with an error", got)
			}
		}
	}
}

// TestR2RatesStay: the rates are as they were, and what lies behind them is not read.
func TestR2RatesStay(t *testing.T) {
	memory := []api.Rate{one("USD", "EUR", 1, 2, 3), one("EUR", "GBP", 1, 4, 10), one("EUR", "EUR", 0, 0, 0), one("USD", "GBP", 1, 9, 9)}
	was := slices.Clone(memory)
	told(t, "Check", rate.Check(memory[:2]), api.OK)
	both(t, memory[:2], "EUR", "USD", "GBP", 1, 4, 15, api.OK)
	if !slices.Equal(memory, was) {
		t.Errorf("rates are %v now, were %v", memory, was)
	}
	memory[0].Num = 1
	both(t, memory[:2], "EUR", "USD", "GBP", 1, 2, 15, api.OK)
}

func TestR2AgainstSlow(t *testing.T) {
	r := rand.New(rand.NewPCG(7, 8))
	curs := []string{"EUR", "USD", "GBP", "JPY"}
	seen := map[api.Errno]int{}
	for range 20000 {
		var l []api.Rate
		for range r.IntN(15) {
			more := append(l, one(curs[r.IntN(4)], curs[r.IntN(4)], 1+r.IntN(2), 1+r.IntN(big9)>>r.IntN(30), 1+r.IntN(big9)>>r.IntN(30)))
			if rate.Check(more) == nil {
				l = more
			}
		}
		base, from, to, period := curs[r.IntN(4)], curs[r.IntN(4)], curs[r.IntN(4)], 1+r.IntN(2)
		n, d, err := slowFind(l, base, from, to, period)
		seen[err]++
		both(t, l, base, from, to, period, n, d, err)
	}
	for _, e := range []api.Errno{api.OK, api.ErrNone, api.ErrOver} {
		if seen[e] < 50 {
			t.Errorf("only %d of %v", seen[e], e)
		}
	}
}

// slowFind goes through the list, and reckons with fractions of any size.
func slowFind(l []api.Rate, base, from, to string, period int) (n, d int, err api.Errno) {
	if from == to {
		return 1, 1, api.OK
	}
	if n, d, ok := slowLook(l, from, to, period); ok {
		return n, d, api.OK
	}
	n1, d1, ok1 := slowLook(l, from, base, period)
	n2, d2, ok2 := slowLook(l, base, to, period)
	if from == base || to == base || !ok1 || !ok2 {
		return 0, 0, api.ErrNone
	}
	q := new(big.Rat).Mul(big.NewRat(int64(n1), int64(d1)), big.NewRat(int64(n2), int64(d2)))
	limit := big.NewInt(api.MaxRatio)
	if q.Num().Cmp(limit) > 0 || q.Denom().Cmp(limit) > 0 {
		return 0, 0, api.ErrOver
	}
	return int(q.Num().Int64()), int(q.Denom().Int64()), api.OK
}

func slowLook(l []api.Rate, from, to string, period int) (n, d int, ok bool) {
	for _, r := range l {
		if r.Period == period && r.From == from && r.To == to {
			return r.Num, r.Den, true
		}
		if r.Period == period && r.From == to && r.To == from {
			return r.Den, r.Num, true
		}
	}
	return 0, 0, false
}
