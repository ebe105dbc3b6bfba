package revalue_test

import (
	"math/big"
	"math/rand/v2"
	"reflect"
	"regexp"
	"slices"
	"testing"

	"quarterday/api"
	"quarterday/plain"
	"quarterday/revalue"
)

var slowCur = regexp.MustCompile(`^[A-Z]{3}$`)

// slowConvert is Convert to base, of rates, a base and a period with which nothing is wrong: the whole number below, then up where it is nearer, or as near and even.
func slowConvert(l []api.Rate, base string, x api.Balance, period int) (*big.Int, api.Errno) {
	amount := big.NewInt(int64(x.Amount))
	if !slowCur.MatchString(x.Cur) {
		return nil, api.ErrSyntax
	}
	if x.Cur == base {
		return amount, api.OK
	}
	for _, r := range l {
		n, d := r.Den, r.Num
		if r.To == x.Cur && r.From == base {
			n, d = r.Num, r.Den
		} else if r.From != x.Cur || r.To != base {
			continue
		}
		if r.Period != period {
			continue
		}
		twice := amount.Mul(amount, big.NewInt(int64(2*n)))
		floor, over := new(big.Int).DivMod(twice, big.NewInt(int64(2*d)), new(big.Int))
		if more := over.Cmp(big.NewInt(int64(d))); more > 0 || more == 0 && floor.Bit(0) == 1 {
			floor.Add(floor, big.NewInt(1))
		}
		if !floor.IsInt64() {
			return nil, api.ErrOver
		}
		return floor, api.OK
	}
	return nil, api.ErrNone
}

// slowWorth is Worth, of balances and rates with which nothing is wrong.
func slowWorth(l []api.Rate, base string, b []api.Balance, entity, period int) (worth []*big.Int, err api.Errno) {
	if !slowCur.MatchString(base) {
		return nil, api.ErrSyntax
	}
	if entity <= 0 || entity > 12 || period <= 0 || period > 120 {
		return nil, api.ErrRange
	}
	for _, x := range b {
		n := new(big.Int)
		if x.Entity == entity {
			if n, err = slowConvert(l, base, x, period); err != api.OK {
				return nil, err
			}
		}
		worth = append(worth, n)
	}
	return worth, api.OK
}

// slowLeaf is what is wrong with a code, of house.
func slowLeaf(code string) api.Errno {
	there, above := false, false
	for _, a := range house() {
		there = there || a.Code == code
		above = above || a.Parent == code
	}
	switch {
	case !there:
		return api.ErrNone
	case above:
		return api.ErrKind
	}
	return api.OK
}

// slowEntries is Entries, of house, and of balances and rates with which nothing is wrong.
func slowEntries(l []api.Rate, base, gain string, b []api.Balance, entity, period int) (made []api.Entry, err api.Errno) {
	worth, err := slowWorth(l, base, b, entity, period)
	if err != api.OK {
		return nil, err
	}
	if err := slowLeaf(gain); err != api.OK {
		return nil, err
	}
	for _, x := range b {
		if x.Entity == entity && slowLeaf(x.Account) == api.ErrNone {
			return nil, api.ErrNone
		}
	}
	for _, a := range house() {
		sum, has, others := new(big.Int), new(big.Int), 0
		for i, x := range b {
			if x.Entity != entity || x.Account != a.Code {
				continue
			}
			if x.Cur == base {
				has = worth[i]
				continue
			}
			others++
			sum.Add(sum, worth[i])
		}
		if !a.Money || others == 0 {
			continue
		}
		more := new(big.Int).Sub(sum, has)
		if !sum.IsInt64() || !more.IsInt64() {
			return nil, api.ErrOver
		}
		n := int(more.Int64())
		switch {
		case n == 0:
			continue
		case n > big15 || n < -big15:
			return nil, api.ErrRange
		case a.Code == gain:
			return nil, api.ErrClash
		}
		made = append(made, api.Entry{
			Ref: "value-" + a.Code, Entity: entity, Period: period,
			Lines: []api.Line{{Account: a.Code, Cur: base, Amount: n}, {Account: gain, Cur: base, Amount: -n}},
		})
	}
	return made, api.OK
}

// pick takes one of some.
func pick[T any](r *rand.Rand, of ...T) T {
	return of[r.IntN(len(of))]
}

// someRates are mostly all that can be needed, in some order, either way round, with others between.
func someRates(r *rand.Rand) (l []api.Rate) {
	curs := []string{"EUR", "GBP", "USD", "ZZZ"}
	for period := 1; period <= 3; period++ {
		for i, from := range curs {
			for _, to := range curs[:i] {
				if r.IntN(60) == 0 {
					continue
				}
				top := pick(r, 1, 10, 10, 1000)
				num, den := 1+r.IntN(top), 1+r.IntN(top)
				l = append(l, pick(r, one(from, to, period, num, den), one(to, from, period, num, den)))
				if r.IntN(40) == 0 {
					l[len(l)-1].Den = pick(r, big9, big9-1)
				}
			}
		}
	}
	r.Shuffle(len(l), func(i, j int) { l[i], l[j] = l[j], l[i] })
	return l
}

// someAmount is one that is not 0, one of some that are great.
func someAmount(r *rand.Rand, some int) int {
	if r.IntN(some) == 0 {
		return pick(r, 1, -1) * pick(r, big15, big15+1, big18, big18-r.IntN(1000), 1+r.IntN(big18))
	}
	return pick(r, 1, -1) * pick(r, 1+r.IntN(5), 1+r.IntN(10), 1+r.IntN(1000), 1+r.IntN(1_000_000_000))
}

// someBalances are such that nothing is wrong with them, mostly of accounts and currencies that there are.
func someBalances(r *rand.Rand) (l []api.Balance) {
	codes := []string{"1", "10", "11", "12", "2", "3", "4", "5", "500000"}
	if r.IntN(20) == 0 {
		codes = pick(r, append(codes, "9"), append([]string{""}, codes...))
	}
	curs := []string{"EUR", "GBP", "USD", "ZZZ"}
	if r.IntN(20) == 0 {
		curs = append(curs, "eur")
	}
	seldom, some := pick(r, 2, 4, 10), pick(r, 2, 200, 1000, 1000)
	for entity := range 4 {
		for _, code := range codes {
			for _, cur := range curs {
				if r.IntN(seldom) == 0 {
					l = append(l, bal(entity, code, cur, someAmount(r, some)))
				}
			}
		}
	}
	return l
}

// settle makes the base of some accounts what it is to be.
func settle(r *rand.Rand, l []api.Rate, base string, b []api.Balance, entity, period int) []api.Balance {
	made, err := slowEntries(l, base, "3", b, entity, period)
	if err != api.OK {
		return b
	}
	for _, e := range made {
		at := slices.IndexFunc(b, func(x api.Balance) bool { return x == bal(entity, e.Lines[0].Account, base, x.Amount) })
		if at >= 0 && r.IntN(2) == 0 && b[at].Amount+e.Lines[0].Amount != 0 && b[at].Amount < big15 && b[at].Amount > -big15 {
			b[at].Amount += e.Lines[0].Amount
		}
	}
	return b
}

func TestV1V2AsSlow(t *testing.T) {
	r := rand.New(rand.NewPCG(13, 1))
	worths, count, made, as := map[api.Errno]int{}, map[api.Errno]int{}, 0, 0
	for range 20000 {
		l, b := someRates(r), someBalances(r)
		base, gain := pick(r, "EUR", "EUR", "USD", "ZZZ"), pick(r, "4", "4", "4", "3", "12", "10")
		entity, period := pick(r, 1, 1, 2, 3), pick(r, 1, 2, 3)
		switch r.IntN(60) {
		case 0:
			base = pick(r, "", "eur", "EURO")
		case 1:
			gain = pick(r, "1", "5", "9", "")
		case 2:
			entity = pick(r, 0, -1, 13, 12, most, least)
		case 3:
			period = pick(r, 0, -1, 121, 4, 120, most, least)
		}
		b = settle(r, l, base, b, entity, period)
		wantWorth, bad := slowWorth(l, base, b, entity, period)
		gotWorth, err := revalue.Worth(l, base, b, entity, period)
		same := slices.EqualFunc(gotWorth, wantWorth, func(n int, w *big.Int) bool { return w.Cmp(big.NewInt(int64(n))) == 0 })
		if plain.Told(err) != bad || !same {
			t.Fatalf("Worth of %v in %q of %d in %d by %v = %v, %v, want %v, %v", b, base, entity, period, l, gotWorth, err, wantWorth, bad)
		}
		worths[bad]++
		isWorth := bad == api.OK
		want, bad := slowEntries(l, base, gain, b, entity, period)
		got, err := revalue.Entries(house(), l, base, gain, b, entity, period)
		if plain.Told(err) != bad || len(got) != len(want) || len(want) > 0 && !reflect.DeepEqual(got, want) {
			t.Fatalf("Entries of %v in %q, gain %q, of %d in %d by %v = %v, %v, want %v, %v", b, base, gain, entity, period, l, got, err, want, bad)
		}
		if isWorth { // where Worth tells nothing, what Entries tells is its own
			count[bad]++
		}
		made += len(got)
		if err == nil && len(got) == 0 {
			as++
		}
	}
	often(t, "Worth", worths, api.OK, api.ErrSyntax, api.ErrRange, api.ErrNone, api.ErrOver)
	often(t, "Entries", count, api.OK, api.ErrRange, api.ErrNone, api.ErrKind, api.ErrClash)
	if made < 1000 || as < 50 {
		t.Errorf("%d entries only, and %d times none", made, as)
	}
}

// TestV2OverAsSlow: sums about as great as 64 bits hold, of two accounts.
func TestV2OverAsSlow(t *testing.T) {
	r := rand.New(rand.NewPCG(13, 2))
	l := []api.Rate{one("AAA", "EUR", 2, 1, big9), one("BBB", "EUR", 2, 1, 1), one("CCC", "EUR", 2, 1, big9)}
	whole := most / big9
	count := map[api.Errno]int{}
	for range 20000 {
		var b []api.Balance
		for _, code := range []string{"10", "12"} {
			great := pick(r, 1, -1) * pick(r, whole, whole-r.IntN(whole/10), r.IntN(whole))
			small := pick(r, 1, -1) * pick(r, 1+r.IntN(big15), 1+r.IntN(big18), most-whole*big9+r.IntN(3)-1)
			b = append(b, bal(1, code, "AAA", great), bal(1, code, "BBB", small), bal(1, code, "CCC", -great+r.IntN(3)-1), bal(1, code, "EUR", pick(r, 1, -1, -1)*pick(r, small, 1+r.IntN(big18), 1+r.IntN(3))))
		}
		b = slices.DeleteFunc(b, func(x api.Balance) bool { return x.Amount == 0 || x.Cur == "CCC" && r.IntN(2) == 0 || r.IntN(10) == 0 })
		want, bad := slowEntries(l, "EUR", "12", b, 1, 2)
		got, err := revalue.Entries(house(), l, "EUR", "12", b, 1, 2)
		if plain.Told(err) != bad || len(got) != len(want) || len(want) > 0 && !reflect.DeepEqual(got, want) {
			t.Fatalf("Entries of %v = %v, %v, want %v, %v", b, got, err, want, bad)
		}
		count[bad]++
	}
	often(t, "Entries", count, api.OK, api.ErrOver, api.ErrRange, api.ErrClash)
}

// often fails the test where an error was met too seldom to tell anything.
func often(t *testing.T, what string, count map[api.Errno]int, errs ...api.Errno) {
	t.Helper()
	for _, err := range errs {
		if count[err] < 50 {
			t.Errorf("%s: %v %d times only", what, err, count[err])
		}
	}
}
