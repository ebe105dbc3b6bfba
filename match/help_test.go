package match_test

import (
	"fmt"
	"math"
	"slices"
	"strings"
	"testing"

	"quarterday/api"
	"quarterday/match"
	"quarterday/plain"
)

const (
	most  = math.MaxInt
	least = math.MinInt
	big15 = 1_000_000_000_000_000 // of an item
)

// item makes one.
func item(ref string, period, amount int) api.Item {
	return api.Item{Ref: ref, Period: period, Amount: amount}
}

// at makes an item of a period.
func at(period, amount int) api.Item {
	return item("a", period, amount)
}

// amounts makes items of period 5, each of which has another Ref.
func amounts(of ...int) (l []api.Item) {
	for i, n := range of {
		l = append(l, item(fmt.Sprint("i-", i), 5, n))
	}
	return l
}

// items are n of them, with which nothing is wrong up to MaxItems, and of which nothing is set off.
func items(n int) (l []api.Item) {
	for i := range n {
		l = append(l, item(fmt.Sprint(i), 1+i/2, 1+i))
	}
	return l
}

// short is as much of a list as is worth telling.
func short(l any) string {
	return fmt.Sprintf("%.300s", fmt.Sprint(l))
}

// told fails the test where Check does not say that, or where other calls do not say it too, and nothing else.
func told(t *testing.T, l []api.Item, want api.Errno) {
	t.Helper()
	if got := plain.Told(match.Check(l)); got != want {
		t.Errorf("Check of %s = %v, want %v", short(l), got, want)
	}
	if want == api.OK {
		if _, _, err := match.Fifo(l); err != nil {
			t.Errorf("Fifo of %s: %v", short(l), err)
		}
		if _, err := match.Ages(l, api.MaxPeriod, nil); err != nil {
			t.Errorf("Ages of %s: %v", short(l), err)
		}
		return
	}
	unset(t, l, want)
	unaged(t, l, 0, []int{-1}, want)
	inexact(t, l, 0, want)
}

// unset fails the test where Fifo does not tell that error alone.
func unset(t *testing.T, l []api.Item, want api.Errno) {
	t.Helper()
	if times, open, err := match.Fifo(l); plain.Told(err) != want || len(times) != 0 || len(open) != 0 {
		t.Errorf("Fifo of %s = %v, %v, %v, want %v", short(l), times, open, err, want)
	}
}

// unaged fails the test where Ages does not tell that error alone.
func unaged(t *testing.T, l []api.Item, period int, bounds []int, want api.Errno) {
	t.Helper()
	if sums, err := match.Ages(l, period, bounds); plain.Told(err) != want || len(sums) != 0 {
		t.Errorf("Ages of %s, %d, %s = %v, %v, want %v", short(l), period, short(bounds), sums, err, want)
	}
}

// inexact fails the test where Exact does not tell that error alone.
func inexact(t *testing.T, l []api.Item, want int, bad api.Errno) {
	t.Helper()
	if numbers, err := match.Exact(l, want); plain.Told(err) != bad || len(numbers) != 0 {
		t.Errorf("Exact of %s, %d = %v, %v, want %v", short(l), want, numbers, err, bad)
	}
}

// sets fails the test where Fifo does not give that.
func sets(t *testing.T, l []api.Item, times [][3]int, open []api.Item) {
	t.Helper()
	if a, b, err := match.Fifo(l); err != nil || !slices.Equal(a, times) || !slices.Equal(b, open) {
		t.Errorf("Fifo of %s = %s, %s, %v, want %s, %s", short(l), short(a), short(b), err, short(times), short(open))
	}
}

// setsLeft fails the test where Fifo of amounts by themselves does not give that: of what is left each number and how much.
func setsLeft(t *testing.T, of []int, times [][3]int, left ...[2]int) {
	t.Helper()
	l := amounts(of...)
	var open []api.Item
	for _, n := range left {
		o := l[n[0]]
		o.Amount = n[1]
		open = append(open, o)
	}
	sets(t, l, times, open)
	for i := range l {
		l[i].Amount = -l[i].Amount
	}
	for i := range open {
		open[i].Amount = -open[i].Amount
	}
	sets(t, l, times, open) // with the sides changed it is the same
}

// ages fails the test where Ages does not give that.
func ages(t *testing.T, l []api.Item, period int, bounds []int, want ...int) {
	t.Helper()
	if got, err := match.Ages(l, period, bounds); err != nil || !slices.Equal(got, want) {
		t.Errorf("Ages of %s, %d, %v = %v, %v, want %v", short(l), period, bounds, got, err, want)
	}
}

// exact fails the test where Exact of amounts does not give those numbers.
func exact(t *testing.T, of []int, want int, numbers ...int) {
	t.Helper()
	l := amounts(of...)
	exactly(t, l, want, numbers)
	for i := range l {
		l[i].Amount = -l[i].Amount
	}
	exactly(t, l, -want, numbers)
}

// exactly fails the test where Exact of items does not give those numbers.
func exactly(t *testing.T, l []api.Item, want int, numbers []int) {
	t.Helper()
	if got, err := match.Exact(l, want); err != nil || !slices.Equal(got, numbers) {
		t.Errorf("Exact of %s, %d = %v, %v, want %v", short(l), want, got, err, numbers)
	}
}

// wrongItems are such that something is wrong with them, each kind that chapter 18 has.
func wrongItems() [][]api.Item {
	return [][]api.Item{
		items(api.MaxItems + 1),
		{at(1, 5), item("", 1, -5)},
		{item(strings.Repeat("a", 13), 1, 5), at(1, -5)},
		{at(0, 5), at(1, -5)},
		{at(1, 5), at(1, 0)},
		{at(1, 5), at(1, big15+1)},
		{at(1, 5), at(2, -5), at(1, 5)},
	}
}

// errorOf is what Check says of items with which something is wrong.
func errorOf(t *testing.T, l []api.Item) api.Errno {
	t.Helper()
	err := plain.Told(match.Check(l))
	if err == api.OK {
		t.Errorf("nothing is wrong with %s", short(l))
	}
	return err
}
