package pair_test

import (
	"fmt"
	"math/big"
	"math/rand/v2"
	"reflect"
	"regexp"
	"slices"
	"testing"

	"quarterday/api"
	"quarterday/ledger"
	"quarterday/pair"
	"quarterday/plain"
)

var slowCur = regexp.MustCompile(`^[A-Z]{3}$`)

// slowLeaf is what is wrong with a code, of house.
func slowLeaf(code string) api.Errno {
	there, above := false, false
	for _, a := range house() {
		there = there || a.Code == code
		above = above || a.Parent == code
	}
	switch {
	case !there:
		return api.ErrNone
	case above:
		return api.ErrKind
	}
	return api.OK
}

// slowPair is what is wrong with a pair behind others that have what is in met, of house.
func slowPair(p api.Pair, met map[string]int) api.Errno {
	switch {
	case p.A <= 0 || p.A > 12 || p.B <= 0 || p.B > 12:
		return api.ErrRange
	case p.A == p.B:
		return api.ErrClash
	case slowLeaf(p.One) != api.OK:
		return slowLeaf(p.One)
	case slowLeaf(p.Other) != api.OK:
		return slowLeaf(p.Other)
	case slowLeaf(p.Diff) != api.OK:
		return slowLeaf(p.Diff)
	case p.Diff == p.One || p.Diff == p.Other:
		return api.ErrClash
	case met[fmt.Sprint(p.A, " ", p.One)]+met[fmt.Sprint(p.B, " ", p.Other)] > 0:
		return api.ErrClash
	}
	return api.OK
}

// slowCheck is Check, of house.
func slowCheck(l []api.Pair) api.Errno {
	if len(l) > 20 {
		return api.ErrFull
	}
	met := map[string]int{}
	for _, p := range l {
		if err := slowPair(p, met); err != api.OK {
			return err
		}
		met[fmt.Sprint(p.A, " ", p.One)]++
		met[fmt.Sprint(p.B, " ", p.Other)]++
	}
	return api.OK
}

// slowHas has all balances of a currency.
func slowHas(b []api.Balance, cur string) map[string]*big.Int {
	has := map[string]*big.Int{}
	for _, x := range b {
		if x.Cur == cur {
			has[fmt.Sprint(x.Entity, " ", x.Account)] = big.NewInt(int64(x.Amount))
		}
	}
	return has
}

// slowAsked is what Left says of what is asked, whatever the pairs are.
func slowAsked(l []api.Pair, b []api.Balance, cur string) api.Errno {
	switch {
	case len(l) > 20:
		return api.ErrFull
	case ledger.Check(b) != nil:
		return plain.Told(ledger.Check(b))
	case !slowCur.MatchString(cur):
		return api.ErrSyntax
	}
	return api.OK
}

// slowLeft is Left.
func slowLeft(l []api.Pair, b []api.Balance, cur string) (sums []int, err api.Errno) {
	if err := slowAsked(l, b, cur); err != api.OK {
		return nil, err
	}
	has := slowHas(b, cur)
	for _, p := range l {
		sum := new(big.Int)
		for _, key := range []string{fmt.Sprint(p.A, " ", p.One), fmt.Sprint(p.B, " ", p.Other)} {
			if n := has[key]; n != nil {
				sum.Add(sum, n)
			}
		}
		sums = append(sums, int(sum.Int64()))
	}
	return sums, api.OK
}

// slowEntries is Entries, of house.
func slowEntries(l []api.Pair, b []api.Balance, cur string, period int) (made []api.Entry, err api.Errno) {
	if err := slowCheck(l); err != api.OK {
		return nil, err
	}
	if err := slowAsked(l, b, cur); err != api.OK {
		return nil, err
	}
	if period <= 0 || period > 120 {
		return nil, api.ErrRange
	}
	has := slowHas(b, cur)
	add := func(ref string, entity int, code, diff string) {
		n := has[fmt.Sprint(entity, " ", code)]
		switch {
		case n == nil:
		case n.CmpAbs(big.NewInt(big15)) > 0:
			err = api.ErrRange
		default:
			made = append(made, movedIn(cur, period, ref, entity, code, diff, int(n.Int64())))
		}
	}
	for i, p := range l {
		add(fmt.Sprintf("pair-%da", i), p.A, p.One, p.Diff)
		add(fmt.Sprintf("pair-%db", i), p.B, p.Other, p.Diff)
	}
	if err != api.OK {
		return nil, err
	}
	return made, api.OK
}

// pick takes one of some.
func pick[T any](r *rand.Rand, of ...T) T {
	return of[r.IntN(len(of))]
}

// somePair is mostly one with which nothing is wrong by itself.
func somePair(r *rand.Rand, entities int) api.Pair {
	codes := []string{"100", "101", "11", "2", "3", "4", "500000"}
	r.Shuffle(len(codes), func(i, j int) { codes[i], codes[j] = codes[j], codes[i] })
	e := r.Perm(entities)
	p := of(1+e[0], codes[0], 1+e[1], pick(r, codes[0], codes[1]), codes[2])
	switch r.IntN(120) {
	case 0:
		p.A = pick(r, 0, -1, 13, most, least)
	case 1:
		p.B = pick(r, 0, -1, 13, most, least)
	case 2:
		p.A = p.B
	case 3, 4:
		p.One = pick(r, "", "9", "1", "10", "5", "50")
	case 5, 6:
		p.Other = pick(r, "", "9", "1", "10", "5", "50")
	case 7, 8:
		p.Diff = pick(r, "", "9", "1", "10", "5", "50")
	case 9:
		p.Diff = pick(r, p.One, p.Other)
	}
	return p
}

// someAmount is one that is not 0.
func someAmount(r *rand.Rand) int {
	if r.IntN(200) == 0 {
		return pick(r, big15+1, -big15-1, big18, -big18)
	}
	return pick(r, 1, -1) * pick(r, 1, 1+r.IntN(10), 1+r.IntN(1000), 1+r.IntN(big15), big15)
}

// someBalances are mostly such that nothing is wrong with them.
func someBalances(r *rand.Rand, entities int) (l []api.Balance) {
	for entity := range entities + 2 {
		for _, code := range []string{"", "100", "11", "2", "3", "5", "500000"} {
			for _, cur := range []string{"EUR", "USD"} {
				if r.IntN(3) == 0 {
					l = append(l, bal(entity, code, cur, someAmount(r)))
				}
			}
		}
	}
	if len(l) > 1 {
		switch r.IntN(40) {
		case 0:
			l[r.IntN(len(l))].Amount = pick(r, 0, big18+1, -big18-1, most, least)
		case 1:
			l[0], l[1] = l[1], l[0]
		}
	}
	return l
}

func TestN1N2AsSlow(t *testing.T) {
	r := rand.New(rand.NewPCG(14, 1))
	checks, lefts, count, made := map[api.Errno]int{}, map[api.Errno]int{}, map[api.Errno]int{}, 0
	for range 20000 {
		entities := pick(r, 2, 3, 12, 12)
		var l []api.Pair
		for range pick(r, r.IntN(3), r.IntN(5), r.IntN(5), r.IntN(9), 20+r.IntN(2)) {
			l = append(l, somePair(r, entities))
		}
		bad := slowCheck(l)
		if got := plain.Told(pair.Check(house(), l)); got != bad {
			t.Fatalf("Check of %v = %v, want %v", l, got, bad)
		}
		checks[bad]++
		isRight := bad == api.OK
		b, cur, period := someBalances(r, entities), pick(r, "EUR", "USD"), pick(r, 1, 120, r.IntN(122))
		if r.IntN(40) == 0 {
			cur = pick(r, "", "eur", "EURO", "GBP")
		}
		wantLeft, bad := slowLeft(l, b, cur)
		gotLeft, err := pair.Left(l, b, cur)
		if plain.Told(err) != bad || !slices.Equal(gotLeft, wantLeft) {
			t.Fatalf("Left of %v by %v in %q = %v, %v, want %v, %v", b, l, cur, gotLeft, err, wantLeft, bad)
		}
		lefts[bad]++
		want, bad := slowEntries(l, b, cur, period)
		got, err := pair.Entries(house(), l, b, cur, period)
		if plain.Told(err) != bad || len(got) != len(want) || len(want) > 0 && !reflect.DeepEqual(got, want) {
			t.Fatalf("Entries of %v by %v in %q, %d = %v, %v, want %v, %v", b, l, cur, period, got, err, want, bad)
		}
		if isRight { // where Check tells nothing, what Entries tells is its own
			count[bad]++
		}
		made += len(got)
	}
	often(t, "Check", checks, api.OK, api.ErrFull, api.ErrRange, api.ErrNone, api.ErrKind, api.ErrClash)
	often(t, "Left", lefts, api.OK, api.ErrFull, api.ErrOrder, api.ErrRange, api.ErrShape, api.ErrSyntax)
	often(t, "Entries", count, api.OK, api.ErrOrder, api.ErrRange, api.ErrSyntax)
	if made < 1000 {
		t.Errorf("%d entries only", made)
	}
}

// often fails the test where an error was met too seldom to tell anything.
func often(t *testing.T, what string, count map[api.Errno]int, errs ...api.Errno) {
	t.Helper()
	for _, err := range errs {
		if count[err] < 50 {
			t.Errorf("%s: %v %d times only", what, err, count[err])
		}
	}
}
