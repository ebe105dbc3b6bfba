package group_test

import (
	"fmt"
	"math/big"
	"math/rand/v2"
	"slices"
	"testing"

	"quarterday/api"
	"quarterday/chart"
	"quarterday/group"
	"quarterday/ledger"
	"quarterday/plain"
	"quarterday/rate"
)

// slowOne is what is wrong with the holding at i by itself, and with those ahead.
func slowOne(l []api.Holding, i int) api.Errno {
	h := l[i]
	switch {
	case h.Entity <= 0 || h.Entity >= 13 || h.Of <= 0 || h.Of >= 13 || h.Part <= 0 || h.Part >= 1001:
		return api.ErrRange
	case h.Entity == h.Of:
		return api.ErrClash
	}
	for _, a := range l[:i] {
		if fmt.Sprint(a.Entity, a.Of) == fmt.Sprint(h.Entity, h.Of) {
			return api.ErrClash
		}
	}
	return api.OK
}

// slowReach tells of any two whether one has, by others, a part of the other.
func slowReach(l []api.Holding) (reach [13][13]bool) {
	for _, h := range l {
		reach[h.Entity][h.Of] = true
	}
	for by := range 13 {
		for a := range 13 {
			for b := range 13 {
				reach[a][b] = reach[a][b] || reach[a][by] && reach[by][b]
			}
		}
	}
	return reach
}

// slowCheck is Check.
func slowCheck(l []api.Holding) api.Errno {
	if len(l) > 20 {
		return api.ErrFull
	}
	had := map[int]int{}
	for i, h := range l {
		if err := slowOne(l, i); err != api.OK {
			return err
		}
		had[h.Of] += h.Part
	}
	for _, n := range had {
		if n > 1000 {
			return api.ErrSum
		}
	}
	reach := slowReach(l)
	for n := range 13 {
		if reach[n][n] {
			return api.ErrOrder
		}
	}
	return api.OK
}

// slowParts is Parts: as often as there are entities each part is worked out anew, of those that were worked out before.
func slowParts(l []api.Holding, top int) ([]int, api.Errno) {
	if err := slowCheck(l); err != api.OK {
		return nil, err
	}
	if top < 1 || top > 12 {
		return nil, api.ErrRange
	}
	parts := make([]int, 12)
	for range 12 {
		next := make([]int, 12)
		for _, h := range l {
			next[h.Of-1] += parts[h.Entity-1] * h.Part
		}
		for i := range next {
			next[i] /= 1000
		}
		next[top-1] = 1000
		parts = next
	}
	return parts, api.OK
}

// slowAsked is what Translate says of what is asked, whatever comes of the balances.
func slowAsked(rates []api.Rate, base string, b []api.Balance, period int) api.Errno {
	switch {
	case ledger.Check(b) != nil:
		return plain.Told(ledger.Check(b))
	case rate.Check(rates) != nil:
		return plain.Told(rate.Check(rates))
	case !rate.Cur(base):
		return api.ErrSyntax
	case period < 1 || period > 120:
		return api.ErrRange
	}
	return api.OK
}

// slowTranslate is Translate.
func slowTranslate(rates []api.Rate, base string, b []api.Balance, period int) (l []api.Balance, err api.Errno) {
	if err := slowAsked(rates, base, b, period); err != api.OK {
		return nil, err
	}
	worth := map[string]*big.Int{}
	for _, x := range b {
		n, err := rate.Convert(rates, base, x.Cur, base, period, x.Amount)
		if err != nil {
			return nil, plain.Told(err)
		}
		key := fmt.Sprintf("%d %q", x.Entity, x.Account)
		if worth[key] == nil {
			worth[key] = new(big.Int)
		}
		if !worth[key].Add(worth[key], big.NewInt(int64(n))).IsInt64() {
			return nil, api.ErrOver
		}
	}
	for _, x := range b {
		key := fmt.Sprintf("%d %q", x.Entity, x.Account)
		if n := worth[key].Int64(); n != 0 {
			l = append(l, api.Balance{Entity: x.Entity, Account: x.Account, Cur: base, Amount: int(n)})
			worth[key].SetInt64(0) // told once
		}
	}
	return l, api.OK
}

// slowOthers is n less part thousandths of it, to the nearest, a half to the even one.
func slowOthers(n *big.Int, part int) *big.Int {
	twice := new(big.Int).Mul(n, big.NewInt(int64(2*part)))
	own, over := new(big.Int), new(big.Int)
	own.DivMod(twice.Add(twice, big.NewInt(1000)), big.NewInt(2000), over)
	if over.Sign() == 0 && own.Bit(0) == 1 {
		own.Sub(own, big.NewInt(1))
	}
	return new(big.Int).Sub(n, own)
}

// slowUnder is what is under an account of an entity.
func slowUnder(c []api.Account, code string, sums []api.Balance, entity int) *big.Int {
	codes, _ := chart.Under(c, code)
	sum := new(big.Int)
	for _, x := range sums {
		if x.Entity == entity && slices.Contains(codes, x.Account) {
			sum.Add(sum, big.NewInt(int64(x.Amount)))
		}
	}
	return sum
}

// slowWhole is Whole, of a chart with which nothing is wrong.
func slowWhole(c []api.Account, rates []api.Rate, base string, l []api.Holding, top int, b []api.Balance, period int) (a, o []int, bad api.Errno) {
	parts, err := slowParts(l, top)
	if err != api.OK {
		return nil, nil, err
	}
	sums, err := slowTranslate(rates, base, b, period)
	if err != api.OK {
		return nil, nil, err
	}
	all, others := map[string]*big.Int{}, map[string]*big.Int{}
	for _, account := range c {
		all[account.Code], others[account.Code] = new(big.Int), new(big.Int)
	}
	for i, part := range parts {
		if part == 0 {
			continue
		}
		for _, x := range b {
			if x.Entity == i+1 && all[x.Account] == nil {
				return nil, nil, api.ErrNone
			}
		}
		for code := range all {
			n := slowUnder(c, code, sums, i+1)
			all[code].Add(all[code], n)
			others[code].Add(others[code], slowOthers(n, part))
			if !n.IsInt64() || !all[code].IsInt64() || !others[code].IsInt64() {
				bad = api.ErrOver
			}
		}
		if bad != api.OK {
			return nil, nil, bad
		}
	}
	for _, account := range c {
		a, o = append(a, int(all[account.Code].Int64())), append(o, int(others[account.Code].Int64()))
	}
	return a, o, api.OK
}

// pick takes one of some.
func pick[T any](r *rand.Rand, of ...T) T {
	return of[r.IntN(len(of))]
}

// someHoldings are mostly such that nothing is wrong with them: each entity has parts of those behind it in some order.
func someHoldings(r *rand.Rand) (l []api.Holding) {
	order := r.Perm(12)
	for range pick(r, 0, r.IntN(5), r.IntN(20), 12+r.IntN(10), 12+r.IntN(40)/39*100) {
		a, b := r.IntN(12), r.IntN(12)
		if r.IntN(60) != 0 {
			a, b = min(a, b), max(a, b)
		}
		h := has(1+order[a], 1+order[b], pick(r, 1, 5, 1+r.IntN(100), 1+r.IntN(350), 500))
		isAlike := func(o api.Holding) bool { return o.Entity == h.Entity && o.Of == h.Of }
		if (h.Entity == h.Of || slices.ContainsFunc(l, isAlike)) && r.IntN(20) != 0 {
			continue
		}
		switch r.IntN(300) {
		case 0:
			h.Part = pick(r, 0, -1, 1001, most, least)
		case 1:
			h.Entity = pick(r, 0, -1, 13, most, least)
		case 2:
			h.Of = pick(r, 0, -1, 13, most, least)
		}
		l = append(l, h)
	}
	return l
}

// someAmount is one that is not 0.
func someAmount(r *rand.Rand, cur string) int {
	if cur == "BIG" || cur == "GRT" {
		return pick(r, 1, -1) * pick(r, 1, great, great, great/2, great/2, great/3, great-r.IntN(1000), great+r.IntN(20)/19)
	}
	return pick(r, 1, -1) * pick(r, 1, 2, 3, 1+r.IntN(10), 1+r.IntN(1000), 1+r.IntN(big18))
}

// someBalances are mostly such that nothing is wrong with them, and that they have rates.
func someBalances(r *rand.Rand) (l []api.Balance) {
	few := pick(r, 2, 3, 6, 12)
	codes := []string{"1", "10", "100", "101", "11", "2", "3", "5", "500000"}
	if r.IntN(4) == 0 {
		codes = append(codes, "9")
	}
	curs := []string{"CHF", "EUR", "GBP", "SML", "USD"}
	switch r.IntN(10) {
	case 0:
		curs = []string{"CHF", "EUR", "NOK", "USD"}
	case 1:
		curs = []string{"BIG", "CHF", "EUR", "GRT"}
	case 2, 3, 4:
		curs = []string{"BIG"}
	}
	for entity := range 14 {
		for _, code := range codes {
			for _, cur := range curs {
				if r.IntN(len(curs)*few) == 0 {
					l = append(l, bal(entity, code, cur, someAmount(r, cur)))
				}
			}
		}
	}
	if len(l) > 1 && r.IntN(60) == 0 {
		l[0], l[1] = l[1], l[0]
	}
	return l
}

func TestH1H2AsSlow(t *testing.T) {
	r := rand.New(rand.NewPCG(17, 2))
	checks, translates, wholes, others := map[api.Errno]int{}, map[api.Errno]int{}, map[api.Errno]int{}, 0
	for range 14000 {
		l, top := someHoldings(r), 1+r.IntN(12)
		if len(l) > 0 && r.IntN(2) == 0 {
			top = l[0].Entity // who has a part at least
		}
		if r.IntN(60) == 0 {
			top = pick(r, 0, 13, -1, most, least)
		}
		bad := slowCheck(l)
		if got := plain.Told(group.Check(l)); got != bad {
			t.Fatalf("Check of %v = %v, want %v", l, got, bad)
		}
		checks[bad]++
		isRight := bad == api.OK
		wantParts, bad := slowParts(l, top)
		parts, err := group.Parts(l, top)
		if plain.Told(err) != bad || !slices.Equal(parts, wantParts) {
			t.Fatalf("Parts of %d by %v = %v, %v, want %v, %v", top, l, parts, err, wantParts, bad)
		}
		b, base, period := someBalances(r), pick(r, "EUR", "EUR", "EUR", "EUR", "EUR", "USD"), pick(r, 2, 2, 2, 2, 2, 2, 2, 2, 3, 120, r.IntN(122), pick(r, 2, 0, 121))
		wantSums, bad := slowTranslate(market(), base, b, period)
		got, err := group.Translate(market(), base, b, period)
		if plain.Told(err) != bad || !slices.Equal(got, wantSums) {
			t.Fatalf("Translate of %v to %s in %d = %v, %v, want %v, %v", b, base, period, got, err, wantSums, bad)
		}
		translates[bad]++
		isRight = isRight && bad == api.OK
		wantAll, wantOthers, bad := slowWhole(house(), market(), base, l, top, b, period)
		a, o, err := group.Whole(house(), market(), base, l, top, b, period)
		if plain.Told(err) != bad || !slices.Equal(a, wantAll) || !slices.Equal(o, wantOthers) {
			t.Fatalf("Whole of %v of %d by %v to %s in %d = %v, %v, %v, want %v, %v, %v", b, top, l, base, period, a, o, err, wantAll, wantOthers, bad)
		}
		if isRight { // where nothing is told ahead, what Whole tells is its own
			wholes[bad]++
		}
		if slices.ContainsFunc(o, func(n int) bool { return n != 0 }) {
			others++
		}
	}
	often(t, "Check", checks, api.OK, api.ErrFull, api.ErrRange, api.ErrClash, api.ErrSum, api.ErrOrder)
	often(t, "Translate", translates, api.OK, api.ErrOrder, api.ErrNone, api.ErrOver, api.ErrRange)
	often(t, "Whole", wholes, api.OK, api.ErrNone, api.ErrOver, api.ErrRange)
	if others < 1000 {
		t.Errorf("others have something %d times only", others)
	}
}

// often fails the test where an error was met too seldom to tell anything.
func often(t *testing.T, what string, count map[api.Errno]int, errs ...api.Errno) {
	t.Helper()
	for _, err := range errs {
		if count[err] < 50 {
			t.Errorf("%s: %v %d times only, of %v", what, err, count[err], count)
		}
	}
}
