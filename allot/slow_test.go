package allot_test

import (
	"fmt"
	"math/big"
	"math/rand/v2"
	"reflect"
	"slices"
	"testing"

	"quarterday/allot"
	"quarterday/api"
	"quarterday/plain"
)

// slowShares parts a total in numbers of any size: one that is left goes to the one of which most was cut off and that got none yet. Some weight is above 0.
func slowShares(all int, weights []int) []int {
	sum := new(big.Int)
	for _, w := range weights {
		sum.Add(sum, big.NewInt(int64(w)))
	}
	parts, cut := make([]int, len(weights)), make([]*big.Int, len(weights))
	left := all
	for i, w := range weights {
		whole, rest := new(big.Int).QuoRem(new(big.Int).Mul(big.NewInt(int64(all)), big.NewInt(int64(w))), sum, new(big.Int))
		parts[i], cut[i] = int(whole.Int64()), rest.Abs(rest)
		left -= parts[i]
	}
	for left != 0 {
		first := 0
		for i := range cut {
			if cut[i].Cmp(cut[first]) > 0 {
				first = i
			}
		}
		step := 1
		if left < 0 {
			step = -1
		}
		parts[first] += step
		left -= step
		cut[first] = big.NewInt(-1)
	}
	return parts
}

// slowLeaf is what is wrong with a code, of house.
func slowLeaf(code string) api.Errno {
	there, above := false, false
	for _, a := range house() {
		there = there || a.Code == code
		above = above || a.Parent == code
	}
	switch {
	case !there:
		return api.ErrNone
	case above:
		return api.ErrKind
	}
	return api.OK
}

// slowPool is what is wrong with a pool, of house.
func slowPool(p api.Pool) api.Errno {
	if err := slowLeaf(p.Account); err != api.OK {
		return err
	}
	if p.Cur != "EUR" && p.Cur != "USD" { // the only ones that are made and are right
		return api.ErrSyntax
	}
	if len(p.To) == 0 || len(p.To) != len(p.Weights) {
		return api.ErrShape
	}
	if len(p.To) >= 20 {
		return api.ErrFull
	}
	met := map[string]int{p.Account: 1}
	for _, code := range p.To {
		if err := slowLeaf(code); err != api.OK {
			return err
		}
		met[code]++
		if met[code] > 1 {
			return api.ErrClash
		}
	}
	if slices.Max(p.Weights) > 1_000_000_000 || slices.Min(p.Weights) < 0 {
		return api.ErrRange
	}
	if slices.Max(p.Weights) == 0 {
		return api.ErrNone
	}
	return api.OK
}

// slowCheck is Check, of house.
func slowCheck(l []api.Pool) api.Errno {
	if len(l) > 20 {
		return api.ErrFull
	}
	for _, p := range l {
		if err := slowPool(p); err != api.OK {
			return err
		}
	}
	return api.OK
}

// slowEntries is Entries, of house, for balances with which nothing is wrong.
func slowEntries(l []api.Pool, b []api.Balance, entity, period int) (made []api.Entry, err api.Errno) {
	if err := slowCheck(l); err != api.OK {
		return nil, err
	}
	if entity <= 0 || entity > 12 || period <= 0 || period > 120 {
		return nil, api.ErrRange
	}
	for i, p := range l {
		for _, x := range b {
			if x != bal(entity, p.Account, p.Cur, x.Amount) {
				continue
			}
			if x.Amount > big15 || x.Amount < -big15 {
				return nil, api.ErrRange
			}
			e := api.Entry{Ref: fmt.Sprintf("allot-%d", i), Entity: entity, Period: period, Lines: []api.Line{{Account: p.Account, Cur: p.Cur, Amount: -x.Amount}}}
			for j, n := range slowShares(x.Amount, p.Weights) {
				if n != 0 {
					e.Lines = append(e.Lines, api.Line{Account: p.To[j], Cur: p.Cur, Amount: n})
				}
			}
			made = append(made, e)
		}
	}
	return made, api.OK
}

// slowSteps is Steps: the first gives, and the others are stepped down by themselves. Nothing is wrong with what is handed in.
func slowSteps(weights [][]int, amounts []int) []int {
	if len(amounts) == 0 {
		return nil
	}
	keeps, rest := amounts[0], slices.Clone(amounts[1:])
	if len(rest) > 0 && slices.Max(weights[0][1:]) > 0 {
		for i, n := range slowShares(keeps, weights[0][1:]) {
			rest[i] += n
		}
		keeps = 0
	}
	var rows [][]int
	for _, row := range weights[1:] {
		rows = append(rows, row[1:])
	}
	return append([]int{keeps}, slowSteps(rows, rest)...)
}

// pick takes one of some.
func pick[T any](r *rand.Rand, of ...T) T {
	return of[r.IntN(len(of))]
}

// someWeight is mostly one that may be.
func someWeight(r *rand.Rand) int {
	if r.IntN(200) == 0 {
		return pick(r, -1, api.MaxRatio+1, most, least)
	}
	return pick(r, 0, r.IntN(4), r.IntN(100), r.IntN(api.MaxRatio+1), api.MaxRatio)
}

// somePool is mostly one with which nothing is wrong.
func somePool(r *rand.Rand) api.Pool {
	codes := append(leaves(19), "100", "101", "11", "2", "3", "4", "500000")
	if r.IntN(10) == 0 {
		codes = append(codes, "2", "100", "5", "1", "9", "")
	}
	r.Shuffle(len(codes), func(i, j int) { codes[i], codes[j] = codes[j], codes[i] })
	n := pick(r, 1, 1+r.IntN(4), 1+r.IntN(4), 19)
	if r.IntN(50) == 0 {
		n = pick(r, 0, 20, 21)
	}
	p := pool(codes[0], codes[1:1+n])
	if r.IntN(2) == 0 {
		p.Account = pick(r, "100", "2", "4") // of which there are balances
	}
	for range n {
		p.Weights = append(p.Weights, someWeight(r))
	}
	switch r.IntN(60) {
	case 0:
		p.Weights = append(p.Weights, 1)
	case 1:
		p.Cur = pick(r, "eur", "", "EU", "EURO")
	case 2:
		clear(p.Weights)
	case 3, 4, 5, 6, 7, 8, 9, 10, 11, 12:
		p.Cur = "USD"
	}
	return p
}

// someAmount is one that is not 0.
func someAmount(r *rand.Rand) int {
	if r.IntN(40) == 0 {
		return pick(r, big15+1, -big15-1, big18, -big18)
	}
	return pick(r, 1, -1) * pick(r, 1, 1+r.IntN(10), 1+r.IntN(1000), 1+r.IntN(big15), big15)
}

// someBalances are such that nothing is wrong with them.
func someBalances(r *rand.Rand) (l []api.Balance) {
	for entity := range 4 {
		for _, code := range []string{"100", "2", "4", "600", "601", "602"} {
			for _, cur := range []string{"EUR", "USD"} {
				if r.IntN(2) == 0 {
					l = append(l, bal(entity, code, cur, someAmount(r)))
				}
			}
		}
	}
	return l
}

func TestA1A2AsSlow(t *testing.T) {
	r := rand.New(rand.NewPCG(11, 1))
	checks, count, made := map[api.Errno]int{}, map[api.Errno]int{}, 0
	for range 10000 {
		var l []api.Pool
		for range pick(r, r.IntN(3), r.IntN(5), r.IntN(5), r.IntN(5), 20+r.IntN(2)) {
			l = append(l, somePool(r))
		}
		bad := slowCheck(l)
		if got := plain.Told(allot.Check(house(), l)); got != bad {
			t.Fatalf("Check of %v = %v, want %v", l, got, bad)
		}
		checks[bad]++
		b, entity, period := someBalances(r), pick(r, 1, 1, 2, 3, r.IntN(14)), pick(r, 1, 120, r.IntN(122))
		want, bad := slowEntries(l, b, entity, period)
		got, err := allot.Entries(house(), l, b, entity, period)
		if plain.Told(err) != bad || len(got) != len(want) || len(want) > 0 && !reflect.DeepEqual(got, want) {
			t.Fatalf("Entries of %v by %v of %d in %d = %v, %v, want %v, %v", b, l, entity, period, got, err, want, bad)
		}
		count[bad]++
		made += len(got)
	}
	often(t, "Check", checks, api.OK, api.ErrFull, api.ErrNone, api.ErrKind, api.ErrSyntax, api.ErrShape, api.ErrClash, api.ErrRange)
	often(t, "Entries", count, api.OK, api.ErrRange)
	if made < 1000 {
		t.Errorf("%d entries only", made)
	}
}

// TestA3AsSlow: and amounts together stay what they were.
func TestA3AsSlow(t *testing.T) {
	r := rand.New(rand.NewPCG(11, 3))
	for range 5000 {
		n := r.IntN(api.MaxRules + 1)
		weights, amounts := make([][]int, n), make([]int, n)
		most := pick(r, 1, 2, 10, api.MaxRatio)
		for i := range n {
			for range n {
				weights[i] = append(weights[i], pick(r, 0, r.IntN(most+1)))
			}
			amounts[i] = pick(r, r.IntN(21)-10, r.IntN(2*big15+1)-big15, big15, -big15)
		}
		want := slowSteps(weights, amounts)
		got, err := allot.Steps(weights, amounts)
		if err != nil || !slices.Equal(got, want) || total(got) != total(amounts) {
			t.Fatalf("Steps of %v by %v = %v, %v, want %v", amounts, weights, got, err, want)
		}
	}
}

// often fails the test where an error was met too seldom to tell anything.
func often(t *testing.T, what string, count map[api.Errno]int, errs ...api.Errno) {
	t.Helper()
	for _, err := range errs {
		if count[err] < 50 {
			t.Errorf("%s: %v %d times only", what, err, count[err])
		}
	}
}
