package group_test

import (
	"math/rand/v2"
	"slices"
	"testing"

	"quarterday/api"
	"quarterday/group"
)

// thousandths are those of entities that are not 0.
type thousandths map[int]int

// list has them all, by entity.
func (p thousandths) list() []int {
	l := make([]int, api.MaxEntity)
	for entity, n := range p {
		l[entity-1] = n
	}
	return l
}

// parted fails the test where Parts are not what is wanted, in whatever order the holdings stand.
func parted(t *testing.T, l []api.Holding, top int, want thousandths) {
	t.Helper()
	for _, l := range turned(l) {
		got, err := group.Parts(l, top)
		if err != nil || !slices.Equal(got, want.list()) {
			t.Errorf("Parts of %d by %s = %v, %v, want %v", top, short(l), got, err, want.list())
		}
	}
}

// TestH1PartsTop: it has all of itself at least, whatever others have of it.
func TestH1PartsTop(t *testing.T) {
	for top := 1; top <= api.MaxEntity; top++ {
		parted(t, nil, top, thousandths{top: 1000})
		parted(t, []api.Holding{}, top, thousandths{top: 1000})
	}
	l := []api.Holding{has(1, 2, 300), has(2, 3, 500), has(4, 2, 700), has(4, 3, 1)}
	parted(t, l, 3, thousandths{3: 1000}) // it has nothing, others have it
	parted(t, l, 2, thousandths{2: 1000, 3: 500})
	parted(t, l, 5, thousandths{5: 1000})
	parted(t, l, 12, thousandths{12: 1000})
}

// TestH1PartsTopWrong: a top that is none, with whatever holdings; but what Check says is told first.
func TestH1PartsTopWrong(t *testing.T) {
	for _, top := range []int{0, -1, -12, 13, 14, 120, most, least} {
		unparted(t, nil, top, api.ErrRange)
		unparted(t, []api.Holding{has(1, 12, 5)}, top, api.ErrRange)
		unparted(t, holdings(api.MaxRules), top, api.ErrRange)
		for want, l := range wrongHoldings() {
			unparted(t, l, top, want)
		}
	}
}

// TestH1PartsWrong: each error of Check.
func TestH1PartsWrong(t *testing.T) {
	for want, l := range wrongHoldings() {
		for top := 1; top <= api.MaxEntity; top++ {
			unparted(t, l, top, want)
		}
	}
}

// TestH1PartsOne: of one that it has a part of, at the edges.
func TestH1PartsOne(t *testing.T) {
	for _, n := range []int{1, 2, 500, 999, 1000} {
		parted(t, []api.Holding{has(1, 12, n)}, 1, thousandths{1: 1000, 12: n})
		parted(t, []api.Holding{has(12, 1, n)}, 12, thousandths{12: 1000, 1: n})
		parted(t, []api.Holding{has(12, 1, n)}, 1, thousandths{1: 1000})
	}
}

// TestH1PartsChain: a part of a part, rounded to 0 each time.
func TestH1PartsChain(t *testing.T) {
	parted(t, []api.Holding{has(1, 2, 500), has(2, 3, 500), has(3, 4, 500), has(4, 5, 500)}, 1, thousandths{1: 1000, 2: 500, 3: 250, 4: 125, 5: 62})
	parted(t, []api.Holding{has(4, 2, 999), has(2, 7, 999), has(7, 1, 999)}, 4, thousandths{4: 1000, 2: 999, 7: 998, 1: 997})
	parted(t, []api.Holding{has(1, 2, 3), has(2, 3, 666)}, 1, thousandths{1: 1000, 2: 3, 3: 1})
	parted(t, []api.Holding{has(1, 2, 3), has(2, 3, 667)}, 1, thousandths{1: 1000, 2: 3, 3: 2})
	all, want := []api.Holding{}, thousandths{}
	for n := api.MaxEntity; n > 0; n-- {
		want[n] = 1000
		if n > 1 {
			all = append(all, has(n, n-1, 1000))
		}
	}
	parted(t, all, 12, want)
	delete(want, 12)
	parted(t, all, 11, want)
}

// TestH1PartsOnce: what comes by several ways is added up first, then rounded.
func TestH1PartsOnce(t *testing.T) {
	l := []api.Holding{has(1, 2, 500), has(1, 3, 500), has(2, 4, 1), has(3, 4, 1)} // a half and a half
	parted(t, l, 1, thousandths{1: 1000, 2: 500, 3: 500, 4: 1})
	parted(t, l[:3], 1, thousandths{1: 1000, 2: 500, 3: 500}) // a half alone
	parted(t, []api.Holding{has(1, 2, 333), has(1, 3, 333), has(1, 5, 334), has(2, 4, 1), has(3, 4, 1), has(5, 4, 1)}, 1, thousandths{1: 1000, 2: 333, 3: 333, 5: 334, 4: 1})
	parted(t, []api.Holding{has(1, 2, 333), has(1, 3, 333), has(1, 5, 333), has(2, 4, 1), has(3, 4, 1), has(5, 4, 1)}, 1, thousandths{1: 1000, 2: 333, 3: 333, 5: 333})
	parted(t, []api.Holding{has(1, 2, 999), has(1, 4, 500), has(2, 4, 500)}, 1, thousandths{1: 1000, 2: 999, 4: 999}) // 500 and 499 and a half
	parted(t, []api.Holding{has(1, 2, 999), has(1, 4, 1), has(2, 4, 999)}, 1, thousandths{1: 1000, 2: 999, 4: 999})   // 1 and 998 and a thousandth
}

// TestH1PartsMeet: what is its own, and what others have that it has nothing of, count for what they are.
func TestH1PartsMeet(t *testing.T) {
	parted(t, []api.Holding{has(1, 2, 600), has(1, 3, 400), has(2, 3, 500), has(7, 3, 100), has(3, 4, 1000), has(7, 5, 1000)}, 1,
		thousandths{1: 1000, 2: 600, 3: 700, 4: 700})
	parted(t, []api.Holding{has(9, 1, 500), has(1, 2, 500), has(9, 2, 250)}, 9, thousandths{9: 1000, 1: 500, 2: 500})
	parted(t, []api.Holding{has(9, 1, 500), has(1, 2, 500), has(9, 2, 250)}, 1, thousandths{1: 1000, 2: 500}) // 9 has of 2, but of 9 nothing
	parted(t, []api.Holding{has(1, 2, 1000), has(1, 3, 1000), has(2, 4, 500), has(3, 4, 500), has(4, 5, 500), has(1, 5, 500)}, 1,
		thousandths{1: 1000, 2: 1000, 3: 1000, 4: 1000, 5: 1000})
}

// TestH1PartsNone: where a part is rounded to 0 there is nothing beneath either.
func TestH1PartsNone(t *testing.T) {
	l := []api.Holding{has(1, 2, 1), has(2, 3, 999), has(3, 4, 1000), has(4, 5, 1000)}
	parted(t, l, 1, thousandths{1: 1000, 2: 1})
	parted(t, l, 2, thousandths{2: 1000, 3: 999, 4: 999, 5: 999})
	parted(t, append(l, has(1, 6, 10), has(6, 7, 99), has(7, 8, 995), has(1, 8, 5)), 1, thousandths{1: 1000, 2: 1, 6: 10, 8: 5})
}

// TestH1PartsMany: all entities, each with others ahead, in any order.
func TestH1PartsMany(t *testing.T) {
	l := []api.Holding{
		has(6, 1, 800), has(6, 11, 500), has(1, 11, 300), has(1, 3, 1000), has(11, 9, 450), has(3, 9, 55),
		has(9, 2, 999), has(2, 12, 777), has(9, 12, 111), has(6, 12, 1), has(12, 4, 900), has(4, 5, 900), has(5, 7, 900),
		has(7, 8, 900), has(8, 10, 500), has(3, 10, 300),
	}
	want := thousandths{6: 1000, 1: 800, 11: 740, 3: 800, 9: 377, 2: 376, 12: 334, 4: 300, 5: 270, 7: 243, 8: 218, 10: 349}
	r := rand.New(rand.NewPCG(17, 1))
	for range 50 {
		r.Shuffle(len(l), func(i, j int) { l[i], l[j] = l[j], l[i] })
		parted(t, l, 6, want)
	}
}

// TestH1PartsWays: as many ways as holdings can make lead to the same end, and soon.
func TestH1PartsWays(t *testing.T) {
	var l []api.Holding
	for n := 2; n <= api.MaxEntity && len(l) < api.MaxRules; n++ {
		l = append(l, has(n-1, n, 500))
		if n > 2 && len(l) < api.MaxRules {
			l = append(l, has(n-2, n, 500))
		}
	}
	for _, turn := range turned(l) {
		got, err := group.Parts(turn, 1)
		if err != nil || !slices.Equal(got, []int{1000, 500, 750, 625, 687, 656, 671, 663, 667, 665, 666, 333}) {
			t.Errorf("Parts = %v, %v", got, err)
		}
	}
}
