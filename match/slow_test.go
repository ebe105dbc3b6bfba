package match_test

import (
	"fmt"
	"math/rand/v2"
	"regexp"
	"slices"
	"testing"

	"quarterday/api"
	"quarterday/match"
	"quarterday/plain"
)

// slowRef is a Ref's form.
var slowRef = regexp.MustCompile(`\A[a-z0-9][-a-z0-9]{0,11}\z`)

// slowCheck is Check.
func slowCheck(l []api.Item) api.Errno {
	if len(l) >= 201 {
		return api.ErrFull
	}
	now := 0
	for _, o := range l {
		switch {
		case !slowRef.MatchString(o.Ref):
			return api.ErrSyntax
		case o.Period <= 0 || o.Period >= 121 || o.Amount == 0 || o.Amount > big15 || o.Amount < -big15:
			return api.ErrRange
		case o.Period < now:
			return api.ErrOrder
		}
		now = o.Period
	}
	return api.OK
}

// unit of an item's amount, and against that of which one behind it it is set off.
type unit struct {
	of, by int
}

// slowFifo is Fifo, of items of whole units: unit by unit.
func slowFifo(l []api.Item, size int) (times [][3]int, open []api.Item, err api.Errno) {
	if err := slowCheck(l); err != api.OK {
		return nil, nil, err
	}
	var units []unit
	left := make([]int, len(l))
	for own, o := range l {
		sign := 1
		if o.Amount < 0 {
			sign = -1
		}
		for range o.Amount * sign / size {
			isOpen := func(u unit) bool { return u.by < 0 && l[u.of].Amount*sign < 0 }
			if i := slices.IndexFunc(units, isOpen); i >= 0 {
				units[i].by = own
				left[units[i].of] += size * sign
				times = slowAlso(times, units[i], size)
			} else {
				units = append(units, unit{own, -1})
				left[own] += size * sign
			}
		}
	}
	for i, n := range left {
		if n != 0 {
			open = append(open, api.Item{Ref: l[i].Ref, Period: l[i].Period, Amount: n})
		}
	}
	return times, open, api.OK
}

// slowAlso has a unit more, of the same two or of others.
func slowAlso(times [][3]int, u unit, size int) [][3]int {
	if n := len(times) - 1; n >= 0 && times[n][0] == u.of && times[n][1] == u.by {
		times[n][2] += size
		return times
	}
	return append(times, [3]int{u.of, u.by, size})
}

// slowAges is Ages, of what is open.
func slowAges(l, open []api.Item, period int, bounds []int) ([]int, api.Errno) {
	if period < 1 || period > 120 {
		return nil, api.ErrRange
	}
	if len(bounds) >= 21 {
		return nil, api.ErrFull
	}
	for i, n := range bounds {
		for _, ahead := range bounds[:i] {
			if ahead >= n {
				return nil, api.ErrOrder
			}
		}
		if n < 0 {
			return nil, api.ErrOrder
		}
	}
	for _, o := range l {
		if o.Period > period {
			return nil, api.ErrState
		}
	}
	sums := make([]int, len(bounds)+1)
	for _, o := range open {
		at := 0
		for _, n := range bounds {
			if period-o.Period >= n {
				at++
			}
		}
		sums[at] += o.Amount
	}
	return sums, api.OK
}

// slowExact is Exact, of items with which nothing is wrong: all ways to take some are tried, and held against each other.
func slowExact(l []api.Item, want int) ([]int, api.Errno) {
	if len(l) >= 17 {
		return nil, api.ErrFull
	}
	var best []int
	found := false
	for way := range 1 << len(l) {
		var numbers []int
		sum := 0
		for i, o := range l {
			if way>>i&1 != 0 {
				numbers = append(numbers, i)
				sum += o.Amount
			}
		}
		if sum != want {
			continue
		}
		if !found || len(numbers) < len(best) || len(numbers) == len(best) && slices.Compare(numbers, best) < 0 {
			best, found = numbers, true
		}
	}
	if !found {
		return nil, api.ErrNone
	}
	return best, api.OK
}

// pick takes one of some.
func pick[T any](r *rand.Rand, of ...T) T {
	return of[r.IntN(len(of))]
}

// someItems are mostly such that nothing is wrong with them: amounts of a few units each.
func someItems(r *rand.Rand, size int) (l []api.Item) {
	now := 1 + r.IntN(60)
	sides := pick(r, 1, 2, 5, 9)
	for range pick(r, 0, r.IntN(4), r.IntN(12), r.IntN(12), 10+r.IntN(8), r.IntN(40), 200+r.IntN(12)/10) {
		now += pick(r, 0, 0, 1, r.IntN(9)) * r.IntN(100) / 99
		o := item(pick(r, "a", "b-1", "abcdefghijkl", "7"), min(now, 120), size*(1+r.IntN(20)))
		if r.IntN(10) < sides {
			o.Amount = -o.Amount
		}
		switch r.IntN(400) {
		case 0:
			o.Ref = pick(r, "", "-", "-a", "abcdefghijklm", "A", "a b")
		case 1:
			o.Period = pick(r, 0, 121, -1, most, least)
		case 2:
			o.Amount = pick(r, 0, big15+1, -big15-1, most, least)
		case 3:
			o.Period = 1 + r.IntN(120)
		}
		l = append(l, o)
	}
	return l
}

// someBounds are mostly such that they rise.
func someBounds(r *rand.Rand) (l []int) {
	at := pick(r, 0, 0, 1, r.IntN(10), -r.IntN(9)/8)
	for range pick(r, 0, 1, 2, 3, r.IntN(10), 19+r.IntN(20)/9) {
		l = append(l, at)
		at += 1 + r.IntN(pick(r, 1, 4, 9, 60))
	}
	if n := len(l); n > 1 && r.IntN(12) == 0 {
		l[r.IntN(n)] = l[r.IntN(n)] // stays, falls, or is as it was
	}
	return l
}

// someWant is mostly what some of the items are together.
func someWant(r *rand.Rand, l []api.Item, size int) (want int) {
	for _, o := range l {
		if r.IntN(3) == 0 {
			want += o.Amount
		}
	}
	return pick(r, want, want, want, 0, size*r.IntN(40), want+1, -want)
}

// TestM1M2Slow: random items, held against what is worked out slowly.
func TestM1M2Slow(t *testing.T) {
	r := rand.New(rand.NewPCG(18, 1))
	sets, aged, taken := map[api.Errno]int{}, map[api.Errno]int{}, map[api.Errno]int{}
	for range 6000 {
		size := pick(r, 1, 1, 7, big15/20)
		l := someItems(r, size)
		if got, want := plain.Told(match.Check(l)), slowCheck(l); got != want {
			t.Fatalf("Check of %s = %v, want %v", short(l), got, want)
		}
		times, open, err := match.Fifo(l)
		wantTimes, wantOpen, bad := slowFifo(l, size)
		if !slices.Equal(times, wantTimes) || !slices.Equal(open, wantOpen) || plain.Told(err) != bad {
			t.Fatalf("Fifo of %v = %v, %v, %v, want %v, %v, %v", l, times, open, err, wantTimes, wantOpen, bad)
		}
		sets[bad]++
		period, bounds := pick(r, 120, 120, 1+r.IntN(120), 60+r.IntN(62)), someBounds(r)
		wantSums, ill := slowAges(l, wantOpen, period, bounds)
		if bad != api.OK {
			wantSums, ill = nil, bad
		}
		if sums, err := match.Ages(l, period, bounds); !slices.Equal(sums, wantSums) || plain.Told(err) != ill {
			t.Fatalf("Ages of %v, %d, %v = %v, %v, want %v, %v", l, period, bounds, sums, err, wantSums, ill)
		}
		aged[ill]++
		if len(l) > 11 && len(l) < 17 && r.IntN(10) != 0 {
			continue // it takes long
		}
		taken[slowTaken(t, r, l, size, bad)]++
	}
	often(t, "Fifo", sets, api.OK, api.ErrFull, api.ErrSyntax, api.ErrRange, api.ErrOrder)
	often(t, "Ages", aged, api.OK, api.ErrFull, api.ErrSyntax, api.ErrRange, api.ErrOrder, api.ErrState)
	often(t, "Exact", taken, api.OK, api.ErrFull, api.ErrSyntax, api.ErrRange, api.ErrOrder, api.ErrNone)
}

// slowTaken holds Exact against slowExact, and has what is told.
func slowTaken(t *testing.T, r *rand.Rand, l []api.Item, size int, bad api.Errno) api.Errno {
	t.Helper()
	want := someWant(r, l, size)
	var numbers []int
	if bad == api.OK {
		numbers, bad = slowExact(l, want)
	}
	if got, err := match.Exact(l, want); !slices.Equal(got, numbers) || plain.Told(err) != bad {
		t.Fatalf("Exact of %v, %d = %v, %v, want %v, %v", l, want, got, err, numbers, bad)
	}
	return bad
}

// TestM1FifoLaws: what is set off and what is open are together what was there; what is open is of one sign.
func TestM1FifoLaws(t *testing.T) {
	r := rand.New(rand.NewPCG(18, 2))
	for range 3000 {
		var l []api.Item
		for range r.IntN(api.MaxItems + 1) {
			l = append(l, item(fmt.Sprint(len(l)), 7, pick(r, 1, -1)*(1+r.IntN(pick(r, 3, 100, big15)))))
		}
		times, open, err := match.Fifo(l)
		if err != nil {
			t.Fatalf("Fifo of %s: %v", short(l), err)
		}
		left := slices.Clone(l)
		for _, n := range times {
			a, b := &left[n[0]].Amount, &left[n[1]].Amount
			if n[0] >= n[1] || n[2] <= 0 || *a > 0 == (*b > 0) || max(*a, -*a) < n[2] || max(*b, -*b) < n[2] {
				t.Fatalf("Fifo of %s sets off %v of %d and %d", short(l), n, *a, *b)
			}
			if *a > 0 {
				*a, *b = *a-n[2], *b+n[2]
			} else {
				*a, *b = *a+n[2], *b-n[2]
			}
		}
		left = slices.DeleteFunc(left, func(o api.Item) bool { return o.Amount == 0 })
		if !slices.Equal(left, open) {
			t.Fatalf("Fifo of %s leaves %s, not %s", short(l), short(open), short(left))
		}
		for _, o := range open {
			if o.Amount > 0 != (open[0].Amount > 0) {
				t.Fatalf("Fifo of %s leaves both signs: %s", short(l), short(open))
			}
		}
	}
}

// often fails the test where an error was met too seldom to tell anything.
func often(t *testing.T, what string, count map[api.Errno]int, errs ...api.Errno) {
	t.Helper()
	for _, err := range errs {
		if count[err] < 50 {
			t.Errorf("%s: %v %d times only, of %v", what, err, count[err], count)
		}
	}
}
