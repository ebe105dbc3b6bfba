package ledger_test

import (
	"fmt"
	"math/big"
	"math/rand/v2"
	"slices"
	"strings"
	"testing"

	"quarterday/api"
	"quarterday/ledger"
	"quarterday/plain"
)

// slow are balances that are worked out in a list, in numbers of any size.
type slow struct {
	of  []api.Balance // Amount 0
	sum []*big.Int
}

// add puts an amount to its balance, which is looked for from the first on.
func (s *slow) add(b api.Balance) {
	amount := big.NewInt(int64(b.Amount))
	b.Amount = 0
	i := slices.Index(s.of, b)
	if i < 0 {
		i = len(s.of)
		s.of, s.sum = append(s.of, b), append(s.sum, new(big.Int))
	}
	s.sum[i].Add(s.sum[i], amount)
}

// less tells whether a balance stands ahead of another one.
func less(a, b api.Balance) bool {
	if a.Entity != b.Entity {
		return a.Entity < b.Entity
	}
	if a.Account != b.Account {
		return a.Account < b.Account
	}
	return a.Cur < b.Cur
}

// all takes the first of those that are left, again and again.
func (s *slow) all(bound int64) ([]api.Balance, api.Errno) {
	if len(s.of) > api.MaxItems {
		return nil, api.ErrFull
	}
	var l []api.Balance
	done := make([]bool, len(s.of))
	for range s.of {
		first := -1
		for i, b := range s.of {
			if !done[i] && (first < 0 || less(b, s.of[first])) {
				first = i
			}
		}
		done[first] = true
		if s.sum[first].CmpAbs(big.NewInt(bound)) > 0 {
			return nil, api.ErrOver
		}
		if s.sum[first].Sign() != 0 {
			b := s.of[first]
			b.Amount = int(s.sum[first].Int64())
			l = append(l, b)
		}
	}
	return l, api.OK
}

// slowEntries has the balances of entries, of one entity (-1: of all) and of periods from one to another.
func slowEntries(l []api.Entry, entity, from, to int) ([]api.Balance, api.Errno) {
	if len(l) > api.MaxEntries {
		return nil, api.ErrFull
	}
	var s slow
	for _, e := range l {
		for _, n := range e.Lines {
			if n.Amount > big15 || n.Amount < -big15 {
				return nil, api.ErrRange
			}
			if (entity == -1 || e.Entity == entity) && e.Period >= from && e.Period <= to {
				s.add(bal(e.Entity, n.Account, n.Cur, n.Amount))
			}
		}
	}
	return s.all(most)
}

// slowCheck is Check, balance by balance.
func slowCheck(l []api.Balance) api.Errno {
	if len(l) > api.MaxItems {
		return api.ErrFull
	}
	for i, b := range l {
		if i > 0 && !less(l[i-1], b) {
			return api.ErrOrder
		}
		if b.Amount > big18 || b.Amount < -big18 {
			return api.ErrRange
		}
		if b.Amount == 0 {
			return api.ErrShape
		}
	}
	return api.OK
}

// slowMerge is Merge by a list.
func slowMerge(a, b []api.Balance) ([]api.Balance, api.Errno) {
	for _, l := range [][]api.Balance{a, b} {
		if err := slowCheck(l); err != api.OK {
			return nil, err
		}
	}
	var s slow
	for _, x := range slices.Concat(a, b) {
		s.add(x)
	}
	return s.all(big18)
}

// slowStatement climbs from each balance to all that its account is under. The chart is right.
func slowStatement(c []api.Account, l []api.Balance, entity int, cur string) ([]int, api.Errno) {
	if err := slowCheck(l); err != api.OK {
		return nil, err
	}
	sums := map[string]*big.Int{}
	parent := map[string]string{}
	for _, a := range c {
		sums[a.Code], parent[a.Code] = new(big.Int), a.Parent
	}
	for _, b := range l {
		if b.Entity != entity || b.Cur != cur {
			continue
		}
		if sums[b.Account] == nil {
			return nil, api.ErrNone
		}
		for code := b.Account; code != ""; code = parent[code] {
			sums[code].Add(sums[code], big.NewInt(int64(b.Amount)))
		}
	}
	var list []int
	for _, a := range c {
		if !sums[a.Code].IsInt64() {
			return nil, api.ErrOver
		}
		list = append(list, int(sums[a.Code].Int64()))
	}
	return list, api.OK
}

// pick takes one of some.
func pick[T any](r *rand.Rand, of ...T) T {
	return of[r.IntN(len(of))]
}

// someEntries are mostly such that nothing is wrong with them.
func someEntries(r *rand.Rand) (l []api.Entry) {
	accounts := pick(r, 3, 3, 3, 30)
	for range pick(r, r.IntN(5), r.IntN(20), api.MaxEntries+r.IntN(2)) {
		e := api.Entry{Entity: r.IntN(4), Period: r.IntN(6)}
		for range r.IntN(6) {
			e.Lines = append(e.Lines, line(fmt.Sprint(r.IntN(accounts)), pick(r, "EUR", "USD", "E"), pick(r, r.IntN(5)-2, r.IntN(5)-2, r.IntN(2*big15+1)-big15)))
		}
		l = append(l, e)
	}
	if len(l) > 0 && r.IntN(10) == 0 {
		l[r.IntN(len(l))].Lines = []api.Line{line("1", "EUR", pick(r, big15+1, -big15-1, big15, most, least))}
	}
	return l
}

func TestG1AsSlow(t *testing.T) {
	r := rand.New(rand.NewPCG(10, 1))
	count := map[api.Errno]int{}
	for range 2000 {
		l, entity, period := someEntries(r), r.IntN(4), r.IntN(7)-1
		want, bad := slowEntries(l, -1, least, period)
		got, err := ledger.Balances(l, period)
		if plain.Told(err) != bad || !slices.Equal(got, want) {
			t.Fatalf("Balances of %v up to %d = %v, %v, want %v, %v", l, period, got, err, want, bad)
		}
		count[bad]++
		want, bad = slowEntries(l, entity, period, period)
		got, err = ledger.Trial(l, entity, period)
		if plain.Told(err) != bad || !slices.Equal(got, want) {
			t.Fatalf("Trial of %v of %d in %d = %v, %v, want %v, %v", l, entity, period, got, err, want, bad)
		}
	}
	often(t, "Balances", count, api.OK, api.ErrFull, api.ErrRange)
}

// someBalances mostly rise; one may be spoilt.
func someBalances(r *rand.Rand) (l []api.Balance) {
	step := pick(r, 1, 1, 2, 4)
	great := r.IntN(3) == 0
	for i := range pick(r, r.IntN(4), r.IntN(40), 420) {
		if r.IntN(step+1) != 0 {
			continue
		}
		amount := pick(r, 1, -1, 2)
		if great {
			amount = pick(r, big18, -big18, big18/2, 1-big18, r.IntN(big18)+1)
		}
		l = append(l, bal(i/20, []string{"1", "10", "100", "11", "2", "3", "4"}[i/3%7], []string{"EUR", "GBP", "USD"}[i%3], amount))
	}
	slices.SortFunc(l, func(a, b api.Balance) int {
		return strings.Compare(fmt.Sprintf("%3d/%-3s/%s", a.Entity, a.Account, a.Cur), fmt.Sprintf("%3d/%-3s/%s", b.Entity, b.Account, b.Cur))
	})
	l = slices.CompactFunc(l, func(a, b api.Balance) bool { return a.Entity == b.Entity && a.Account == b.Account && a.Cur == b.Cur })
	if len(l) > 1 && r.IntN(8) == 0 {
		i := r.IntN(len(l) - 1)
		switch r.IntN(4) {
		case 0:
			l[i].Amount = 0
		case 1:
			l[i].Amount = pick(r, big18+1, -big18-1, most, least)
		case 2:
			l[i], l[i+1] = l[i+1], l[i]
		case 3:
			l[i+1] = l[i]
		}
	}
	return l
}

func TestG2AsSlow(t *testing.T) {
	r := rand.New(rand.NewPCG(10, 2))
	checks, merges, statements := map[api.Errno]int{}, map[api.Errno]int{}, map[api.Errno]int{}
	for range 5000 {
		a, b := someBalances(r), someBalances(r)
		bad := slowCheck(a)
		told(t, fmt.Sprint("Check of ", a), ledger.Check(a), bad)
		checks[bad]++
		want, bad := slowMerge(a, b)
		got, err := ledger.Merge(a, b)
		if plain.Told(err) != bad || !slices.Equal(got, want) {
			t.Fatalf("Merge of %v, %v = %v, %v, want %v, %v", a, b, got, err, want, bad)
		}
		merges[bad]++
		entity, cur := r.IntN(3), pick(r, "EUR", "USD", "E")
		numbers, bad := slowStatement(house(), a, entity, cur)
		list, err := ledger.Statement(house(), a, entity, cur)
		if plain.Told(err) != bad || !slices.Equal(list, numbers) {
			t.Fatalf("Statement of %v of %d, %s = %v, %v, want %v, %v", a, entity, cur, list, err, numbers, bad)
		}
		statements[bad]++
	}
	often(t, "Check", checks, api.OK, api.ErrFull, api.ErrOrder, api.ErrRange, api.ErrShape)
	often(t, "Merge", merges, api.OK, api.ErrFull, api.ErrOrder, api.ErrRange, api.ErrShape, api.ErrOver)
	often(t, "Statement", statements, api.OK, api.ErrFull, api.ErrOrder, api.ErrRange, api.ErrShape, api.ErrNone)
}

// often fails the test where an error was met too seldom to tell anything.
func often(t *testing.T, what string, count map[api.Errno]int, errs ...api.Errno) {
	t.Helper()
	for _, err := range errs {
		if count[err] < 50 {
			t.Errorf("%s: %v %d times only", what, err, count[err])
		}
	}
}
