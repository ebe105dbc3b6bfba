package match_test

import (
	"fmt"
	"regexp"
	"slices"
	"strings"
	"testing"

	"quarterday/api"
)

func TestM1CheckTakes(t *testing.T) {
	for _, l := range [][]api.Item{
		nil,
		{},
		{at(1, 1)},
		{at(7, -5)},
		{at(7, 5), at(7, 5), at(7, -5)}, // they may be alike
		{at(1, 5), at(1, -5), at(2, 7), at(120, -7)},
		{item("b", 5, 1), item("a", 5, 3), item("c", 5, 2)}, // neither Refs nor amounts have to rise
		amounts(big15, big15, -big15, -big15, big15),
	} {
		told(t, l, api.OK)
	}
}

// TestM1CheckMaxItems: as many items as may be, and one more, ahead of what is wrong with one.
func TestM1CheckMaxItems(t *testing.T) {
	for _, n := range []int{1, 17, 199, api.MaxItems} {
		told(t, items(n), api.OK)
		told(t, append(items(n-1), api.Item{}), api.ErrSyntax) // the last one counts
		told(t, make([]api.Item, n), api.ErrSyntax)
	}
	for _, n := range []int{201, 202, 100_000} {
		told(t, slices.Repeat([]api.Item{at(5, 1)}, n), api.ErrFull)
		told(t, make([]api.Item, n), api.ErrFull)
	}
	told(t, items(api.MaxItems+1), api.ErrFull)
}

// alone fails the test where Check does not say that of an item by itself, and behind others and ahead of them.
func alone(t *testing.T, o api.Item, want api.Errno) {
	t.Helper()
	ahead, behind := []api.Item{at(1, 5), at(1, 6)}, []api.Item{at(120, 5), at(120, 6)}
	told(t, []api.Item{o}, want)
	told(t, append(slices.Clone(ahead), o), want)
	told(t, append([]api.Item{o}, behind...), want)
	told(t, slices.Concat(ahead, []api.Item{o}, behind), want)
}

// TestM1CheckRef: empty, just as long as may be and one longer, and with signs that may not be.
func TestM1CheckRef(t *testing.T) {
	for _, ref := range []string{"a", "z", "0", "9", "a-", "0--", "007", "az09-", "abcdefghijkl", "123456789012", "a-----------"} {
		alone(t, item(ref, 5, 7), api.OK)
	}
	for _, ref := range []string{
		"", "-", "-a", "-1", "-bcdefghijkl", "abcdefghijklm", "1234567890123", "a------------", strings.Repeat("a", 100_000),
		"A", "aB", " ", "a b", " a", "a ", "a\n", "a\x00", "a_b", "a.b", "a,b", "é", "ａ", "٣", "a–b", "\xff", "a\x80",
	} {
		alone(t, item(ref, 5, 7), api.ErrSyntax)
		alone(t, item(ref, 0, 0), api.ErrSyntax) // ahead of its numbers
	}
}

// TestM1CheckRefOfAllBytes: at each place of a Ref just the bytes of the chapter will do.
func TestM1CheckRefOfAllBytes(t *testing.T) {
	form := regexp.MustCompile(`\A[a-z0-9][-a-z0-9]*\z`)
	for b := range 256 {
		one := string([]byte{byte(b)})
		for _, ref := range []string{one, one + "a", "a" + one, "1" + one + "1", "abcdefghijk" + one, one + "bcdefghijkl"} {
			want := api.ErrSyntax
			if form.MatchString(ref) {
				want = api.OK
			}
			told(t, []api.Item{item(ref, 5, 7)}, want)
		}
	}
}

// TestM1CheckPeriod: at the least and the greatest, and beyond.
func TestM1CheckPeriod(t *testing.T) {
	for _, n := range []int{1, 2, 119, api.MaxPeriod} {
		alone(t, at(n, 7), api.OK)
		told(t, []api.Item{at(n, 7), at(n, -7)}, api.OK)
	}
	for _, n := range []int{0, -1, -120, 121, 122, 200, most, least} {
		alone(t, at(n, 7), api.ErrRange) // ahead of that it is less
	}
}

// TestM1CheckAmount: on both sides just at and just past what may be.
func TestM1CheckAmount(t *testing.T) {
	for _, n := range []int{1, -1, 2, -2, big15 - 1, 1 - big15, big15, -big15} {
		alone(t, at(5, n), api.OK)
	}
	for _, n := range []int{0, big15 + 1, -big15 - 1, 2 * big15, -2 * big15, most, least, most - 1, least + 1} {
		alone(t, at(5, n), api.ErrRange)
	}
}

// TestM1CheckOrder: periods that stay, rise, and fall.
func TestM1CheckOrder(t *testing.T) {
	var rising, staying []api.Item
	for n := 1; n <= api.MaxPeriod; n++ {
		rising, staying = append(rising, at(n, 5)), append(staying, at(60, 5))
	}
	told(t, rising, api.OK)
	told(t, staying, api.OK)
	for i := range api.MaxPeriod {
		if i > 0 {
			l := slices.Clone(staying)
			l[i].Period--
			told(t, l, api.ErrOrder)
			for _, less := range []int{1, i} {
				l = slices.Clone(rising)
				l[i].Period = less
				if less < i {
					told(t, l, api.ErrOrder)
				} else {
					told(t, l, api.OK) // as the one ahead
				}
			}
		}
		if i < api.MaxPeriod-1 {
			l := slices.Clone(staying)
			l[i].Period++
			told(t, l, api.ErrOrder)
		}
	}
	told(t, []api.Item{at(1, 5), at(120, -5), at(119, 5)}, api.ErrOrder)
	told(t, []api.Item{at(9, 5), at(1, 5), at(9, 5)}, api.ErrOrder)
	told(t, []api.Item{at(120, 5), at(1, -5)}, api.ErrOrder)
}

// TestM1CheckOne: of one item what the chapter names first.
func TestM1CheckOne(t *testing.T) {
	for _, c := range []struct {
		o    api.Item
		want api.Errno
	}{
		{item("-", 0, 0), api.ErrSyntax},
		{item("A", 5, 0), api.ErrSyntax},
		{item("A", 121, 7), api.ErrSyntax},
		{item("A", 4, 7), api.ErrSyntax}, // less than the one ahead too
		{item("a", 0, 7), api.ErrRange},
		{item("a", 0, 0), api.ErrRange},
		{item("a", 4, 0), api.ErrRange},
		{item("a", 4, big15+1), api.ErrRange},
		{item("a", 4, 7), api.ErrOrder},
		{item("a", 5, 7), api.OK},
	} {
		told(t, []api.Item{at(5, 7), c.o}, c.want)
		if c.want != api.OK {
			told(t, []api.Item{at(5, 7), c.o, {}}, c.want)
		}
	}
}

// TestM1CheckFirst: of several items what is wrong with the first that has a fault.
func TestM1CheckFirst(t *testing.T) {
	wrong := map[api.Errno][]api.Item{
		api.ErrSyntax: {item("", 60, 7), item("a_", 60, 7)},
		api.ErrRange:  {at(0, 7), at(121, 7), at(60, 0), at(60, most), at(60, least)},
		api.ErrOrder:  {at(59, 7), at(1, -7)},
	}
	for want, these := range wrong {
		for _, first := range these {
			for other, those := range wrong {
				for _, last := range those {
					told(t, []api.Item{at(60, 7), first, last}, want)
					told(t, []api.Item{at(60, 7), first, at(60, 7), last}, want)
					told(t, []api.Item{at(60, 7), last, at(60, 7), first}, other)
				}
			}
		}
	}
}

// TestM1CheckEach: a fault at each place among as many items as may be.
func TestM1CheckEach(t *testing.T) {
	for i := range api.MaxItems {
		l := slices.Repeat([]api.Item{at(60, 7)}, api.MaxItems)
		l[i].Ref = fmt.Sprint("-", i)
		told(t, l, api.ErrSyntax)
		l[i] = at(60, 0)
		told(t, l, api.ErrRange)
		l[i] = at(60, -7)
		told(t, l, api.OK)
	}
}
