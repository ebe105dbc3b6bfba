package accrue_test

import (
	"fmt"
	"math/big"
	"math/rand/v2"
	"reflect"
	"regexp"
	"slices"
	"testing"

	"quarterday/accrue"
	"quarterday/api"
	"quarterday/plain"
)

// slowPart is Part, in numbers of any size, of a plan and a period with which nothing is wrong: what is there up to the period, less what was there ahead of it.
func slowPart(p api.Plan, period int) int {
	upTo := func(k int) int {
		k = min(max(k, 0), p.Periods)
		all := new(big.Int).Mul(big.NewInt(int64(p.Amount)), big.NewInt(int64(k)))
		return int(all.Quo(all, big.NewInt(int64(p.Periods))).Int64())
	}
	return upTo(period-p.First+1) - upTo(period-p.First)
}

// slowSpread tells whether a plan's numbers may be.
func slowSpread(p api.Plan) bool {
	return p.Amount != 0 && p.Amount >= -big15 && p.Amount <= big15 && p.Periods > 0 && p.Periods <= 120 && p.First > 0 && p.First <= 120
}

// slowLeaf is what is wrong with a code, of house.
func slowLeaf(code string) api.Errno {
	there, above := false, false
	for _, a := range house() {
		there = there || a.Code == code
		above = above || a.Parent == code
	}
	switch {
	case !there:
		return api.ErrNone
	case above:
		return api.ErrKind
	}
	return api.OK
}

var (
	slowRef = regexp.MustCompile(`^[a-z0-9]{1,8}$`)
	slowCur = regexp.MustCompile(`^[A-Z]{3}$`)
)

// slowCheck is Check, of house.
func slowCheck(l []api.Plan) api.Errno {
	if len(l) > 20 {
		return api.ErrFull
	}
	met := map[string]int{}
	for _, p := range l {
		met[p.Ref]++
		switch {
		case !slowRef.MatchString(p.Ref):
			return api.ErrSyntax
		case met[p.Ref] > 1:
			return api.ErrClash
		case p.Entity <= 0 || p.Entity > 12 || !slowSpread(p):
			return api.ErrRange
		case slowLeaf(p.From) != api.OK:
			return slowLeaf(p.From)
		case slowLeaf(p.To) != api.OK:
			return slowLeaf(p.To)
		case p.From == p.To:
			return api.ErrClash
		case !slowCur.MatchString(p.Cur):
			return api.ErrSyntax
		}
	}
	return api.OK
}

// slowEntries is Entries, of house.
func slowEntries(l []api.Plan, entity, period int) (made []api.Entry, err api.Errno) {
	if err := slowCheck(l); err != api.OK {
		return nil, err
	}
	if entity <= 0 || entity > 12 || period <= 0 || period > 120 {
		return nil, api.ErrRange
	}
	for _, p := range l {
		n := slowPart(p, period)
		if n == 0 || p.Entity != entity {
			continue
		}
		made = append(made, api.Entry{
			Ref: fmt.Sprintf("%s-%d", p.Ref, period), Entity: entity, Period: period,
			Lines: []api.Line{{Account: p.From, Cur: p.Cur, Amount: n}, {Account: p.To, Cur: p.Cur, Amount: -n}},
		})
	}
	return made, api.OK
}

// slowDeclining is Declining, of numbers with which nothing is wrong: twice the part, less its floor, tells how it is rounded.
func slowDeclining(cost, rest, n, d, periods int) []int {
	if periods == 1 {
		return []int{cost - rest}
	}
	twice := new(big.Int).Mul(big.NewInt(int64(cost)), big.NewInt(int64(2*n)))
	half := big.NewInt(int64(d))
	whole, over := new(big.Int).QuoRem(twice, new(big.Int).Lsh(half, 1), new(big.Int))
	part := int(whole.Int64())
	if more := over.Cmp(half); more > 0 || more == 0 && part%2 != 0 {
		part++
	}
	part = min(part, cost-rest)
	return append([]int{part}, slowDeclining(cost-part, rest, n, d, periods-1)...)
}

// pick takes one of some.
func pick[T any](r *rand.Rand, of ...T) T {
	return of[r.IntN(len(of))]
}

// somePlan is mostly one with which nothing is wrong.
func somePlan(r *rand.Rand, i int) api.Plan {
	codes := []string{"100", "101", "11", "2", "3", "4", "500000"}
	r.Shuffle(len(codes), func(i, j int) { codes[i], codes[j] = codes[j], codes[i] })
	p := api.Plan{
		Ref: fmt.Sprint(pick(r, "p", "abcdef", "0"), i), Entity: pick(r, 1, 1, 2, 12), From: codes[0], To: codes[1], Cur: pick(r, "EUR", "USD"),
		Amount: pick(r, 1, -1) * pick(r, 1, 1+r.IntN(10), 1+r.IntN(1000), 1+r.IntN(big15), big15),
		First:  pick(r, 1, 1+r.IntN(6), 1+r.IntN(120), 120), Periods: pick(r, 1, 1+r.IntN(6), 1+r.IntN(120), 120),
	}
	switch r.IntN(120) {
	case 0:
		p.Ref = pick(r, "", "A", "a-b", "123456789")
	case 1, 2:
		p.Ref = pick(r, "p0", "p1", "p2")
	case 3:
		p.Entity = pick(r, 0, -1, 13, most, least)
	case 4:
		p.Amount = pick(r, 0, big15+1, -big15-1, most, least)
	case 5:
		p.First = pick(r, 0, -1, 121, most, least)
	case 6:
		p.Periods = pick(r, 0, -1, 121, most, least)
	case 7, 8:
		p.From = pick(r, "", "9", "1", "10", "5", "50")
	case 9, 10:
		p.To = pick(r, "", "9", "1", "10", "5", "50")
	case 11:
		p.To = p.From
	case 12:
		p.Cur = pick(r, "", "eur", "EURO", "EU")
	}
	return p
}

func TestP1P2AsSlow(t *testing.T) {
	r := rand.New(rand.NewPCG(12, 1))
	checks, count, made := map[api.Errno]int{}, map[api.Errno]int{}, 0
	for range 20000 {
		var l []api.Plan
		for i := range pick(r, r.IntN(3), r.IntN(5), r.IntN(5), r.IntN(5), 20+r.IntN(2)) {
			l = append(l, somePlan(r, i))
		}
		bad := slowCheck(l)
		if got := plain.Told(accrue.Check(house(), l)); got != bad {
			t.Fatalf("Check of %v = %v, want %v", l, got, bad)
		}
		checks[bad]++
		entity, period := pick(r, 1, 1, 2, 12, r.IntN(14)), pick(r, 1, 1+r.IntN(6), 120, r.IntN(122))
		want, bad := slowEntries(l, entity, period)
		got, err := accrue.Entries(house(), l, entity, period)
		if plain.Told(err) != bad || len(got) != len(want) || len(want) > 0 && !reflect.DeepEqual(got, want) {
			t.Fatalf("Entries of %v of %d in %d = %v, %v, want %v, %v", l, entity, period, got, err, want, bad)
		}
		count[bad]++
		made += len(got)
		for _, p := range l {
			n, wrong := 0, api.ErrRange
			if slowSpread(p) && period >= 1 && period <= 120 {
				n, wrong = slowPart(p, period), api.OK
			}
			part(t, p, period, n, wrong)
		}
	}
	often(t, "Check", checks, api.OK, api.ErrFull, api.ErrNone, api.ErrKind, api.ErrSyntax, api.ErrClash, api.ErrRange)
	often(t, "Entries", count, api.OK, api.ErrRange)
	if made < 1000 {
		t.Errorf("%d entries only", made)
	}
}

// TestP3AsSlow: and parts together are all of what is more than rest, none of them below 0.
func TestP3AsSlow(t *testing.T) {
	r := rand.New(rand.NewPCG(12, 3))
	for range 20000 {
		cost := pick(r, r.IntN(20), r.IntN(1000), r.IntN(big15+1), big15)
		rest := pick(r, 0, r.IntN(cost+1), cost/10, cost)
		d := pick(r, 1+r.IntN(4), 1+r.IntN(100), 1+r.IntN(api.MaxRatio), api.MaxRatio)
		n := pick(r, r.IntN(d+1), r.IntN(d+1), d/2, 0, d)
		periods := pick(r, 1+r.IntN(6), 1+r.IntN(120))
		want := slowDeclining(cost, rest, n, d, periods)
		got, err := accrue.Declining(cost, rest, n, d, periods)
		if err != nil || !slices.Equal(got, want) || slices.Min(got) < 0 {
			t.Fatalf("Declining of %d to %d by %d/%d over %d = %v, %v, want %v", cost, rest, n, d, periods, got, err, want)
		}
		for _, x := range got {
			cost -= x
		}
		if cost != rest {
			t.Fatalf("Declining by %d/%d over %d leaves %d, not %d", n, d, periods, cost, rest)
		}
	}
}

// often fails the test where an error was met too seldom to tell anything.
func often(t *testing.T, what string, count map[api.Errno]int, errs ...api.Errno) {
	t.Helper()
	for _, err := range errs {
		if count[err] < 50 {
			t.Errorf("%s: %v %d times only", what, err, count[err])
		}
	}
}
