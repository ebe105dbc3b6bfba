package group_test

import (
	"slices"
	"testing"

	"quarterday/api"
)

func TestH1CheckTakes(t *testing.T) {
	for _, l := range [][]api.Holding{
		nil,
		{},
		{has(1, 2, 500)},
		{has(2, 1, 500)},
		{has(1, 12, 1), has(12, 2, 1000)},
		{has(1, 2, 1000), has(1, 3, 1000), has(1, 4, 1000)}, // one may have all of many
		{has(1, 2, 500), has(3, 2, 500), has(4, 5, 1000)},
		{has(1, 2, 5), has(1, 3, 5), has(2, 3, 5)},
		{has(1, 3, 5), has(2, 1, 5), has(2, 3, 5)},
	} {
		for _, l := range turned(l) {
			told(t, l, api.OK)
		}
	}
}

// TestH1CheckMaxRules: as many holdings as may be, and one more, ahead of what is wrong with one.
func TestH1CheckMaxRules(t *testing.T) {
	for _, n := range []int{1, 19, api.MaxRules} {
		told(t, holdings(n), api.OK)
		told(t, append(holdings(n-1), api.Holding{}), api.ErrRange) // the last one counts
		told(t, make([]api.Holding, n), api.ErrRange)
	}
	told(t, holdings(api.MaxRules+1), api.ErrFull)
	told(t, holdings(66), api.ErrFull)
	for _, n := range []int{api.MaxRules + 1, api.MaxRules + 2, 100_000} {
		told(t, make([]api.Holding, n), api.ErrFull)
	}
}

// alone fails the test where Check does not say that of a holding by itself, and among others.
func alone(t *testing.T, h api.Holding, want api.Errno) {
	t.Helper()
	others := []api.Holding{has(3, 4, 5), has(4, 5, 6), has(3, 6, 7)}
	told(t, []api.Holding{h}, want)
	told(t, append(slices.Clone(others), h), want)
	told(t, append([]api.Holding{h}, others...), want)
}

// TestH1CheckBounds: Entity, Of and Part just at and just past their bounds.
func TestH1CheckBounds(t *testing.T) {
	for _, n := range []int{1, 2, 11, 12} {
		alone(t, has(n, 7, 500), api.OK)
		alone(t, has(7, n, 500), api.OK)
	}
	for _, n := range []int{0, -1, -12, 13, 14, 120, most, least} {
		alone(t, has(n, 7, 500), api.ErrRange)
		alone(t, has(7, n, 500), api.ErrRange)
		alone(t, has(n, n, 500), api.ErrRange) // ahead of that both are one
		alone(t, has(n, 7, 0), api.ErrRange)
	}
	for _, n := range []int{1, 2, 999, 1000} {
		alone(t, has(1, 2, n), api.OK)
	}
	for _, n := range []int{0, -1, -1000, 1001, 2000, most, least} {
		alone(t, has(1, 2, n), api.ErrRange)
		alone(t, has(2, 2, n), api.ErrRange)
	}
}

// TestH1CheckOne: no entity has a part of itself by itself.
func TestH1CheckOne(t *testing.T) {
	for n := 1; n <= api.MaxEntity; n++ {
		for _, part := range []int{1, 500, 1000} {
			alone(t, has(n, n, part), api.ErrClash)
		}
	}
}

// TestH1CheckTwice: the same two at any places, with whatever parts. In the other order they are not the same.
func TestH1CheckTwice(t *testing.T) {
	for at := range api.MaxRules {
		for ahead := range at {
			l := holdings(api.MaxRules)
			for i := range l {
				l[i].Part = 1
			}
			l[at].Entity, l[at].Of = l[ahead].Entity, l[ahead].Of
			told(t, l, api.ErrClash)
			l[at].Part = 1000
			told(t, l, api.ErrClash) // ahead of that they are too much
		}
	}
	told(t, []api.Holding{has(1, 2, 5), has(2, 1, 5)}, api.ErrOrder)
	told(t, []api.Holding{has(1, 2, 5), has(1, 3, 5), has(4, 2, 5)}, api.OK)
}

// TestH1CheckSum: all of one that others have is at most all of it.
func TestH1CheckSum(t *testing.T) {
	told(t, []api.Holding{has(1, 2, 1000)}, api.OK)
	for _, n := range []int{1, 2, 500, 999} {
		for _, of := range []int{1, 2, 12} {
			for _, l := range turned([]api.Holding{has(5, of, n), has(8, 9, 700), has(8, 10, 700), has(6, of, 1000-n)}) {
				told(t, l, api.OK)
			}
			for _, l := range turned([]api.Holding{has(5, of, n), has(8, 9, 700), has(6, of, 1001-n)}) {
				told(t, l, api.ErrSum)
			}
		}
	}
	told(t, []api.Holding{has(1, 2, 1000), has(3, 2, 1000)}, api.ErrSum)
}

// TestH1CheckSumOfMany: by all others together.
func TestH1CheckSumOfMany(t *testing.T) {
	for of := 1; of <= api.MaxEntity; of++ {
		var l []api.Holding
		for entity := 1; entity <= api.MaxEntity; entity++ {
			if entity != of {
				l = append(l, has(entity, of, 90))
			}
		}
		l[0].Part = 100 // and ten times 90
		told(t, l, api.OK)
		for i := range l {
			l[i].Part++
			told(t, l, api.ErrSum)
			l[i].Part -= 2
			told(t, l, api.OK)
			l[i].Part++
		}
	}
}

// circle has n entities, from one on, each of which has a part of the next one, and the last of the first.
func circle(from, n int) (l []api.Holding) {
	for i := range n {
		l = append(l, has(from+i, from+(i+1)%n, 1+i))
	}
	return l
}

// TestH1CheckCircle: of two and more, whatever way round, in whatever order; without one of its holdings it is none.
func TestH1CheckCircle(t *testing.T) {
	for n := 2; n <= api.MaxEntity; n++ {
		for _, from := range []int{1, 13 - n} {
			for _, l := range turned(circle(from, n)) {
				told(t, l, api.ErrOrder)
				told(t, l[1:], api.OK)
				told(t, l[:n-1], api.OK)
				back := slices.Clone(l)
				for i, h := range back {
					back[i] = has(h.Of, h.Entity, h.Part)
				}
				told(t, back, api.ErrOrder)
				told(t, back[1:], api.OK)
			}
		}
	}
}

// TestH1CheckCircleAmong: a circle among others: a chain that leads to it, one that it leads to, and both, and one beside it.
func TestH1CheckCircleAmong(t *testing.T) {
	to := []api.Holding{has(1, 2, 5), has(2, 3, 5), has(3, 4, 5), has(1, 3, 5)}
	from := []api.Holding{has(5, 7, 5), has(7, 8, 5), has(8, 9, 5), has(6, 8, 5)}
	beside := []api.Holding{has(10, 11, 5), has(11, 12, 5), has(10, 12, 5)}
	for _, c := range [][]api.Holding{circle(4, 2), circle(4, 3)} {
		for _, l := range [][]api.Holding{to, from, beside, slices.Concat(to, from), slices.Concat(to, from, beside)} {
			told(t, l, api.OK)
			for _, l := range turned(slices.Concat(c, l)) {
				told(t, l, api.ErrOrder)
			}
			for _, l := range turned(slices.Concat(c[1:], l)) {
				told(t, l, api.OK)
			}
		}
	}
	told(t, slices.Concat(circle(1, 2), circle(3, 3)), api.ErrOrder) // two of them
	told(t, []api.Holding{has(1, 2, 5), has(2, 3, 5), has(3, 1, 5), has(2, 4, 5), has(4, 1, 5)}, api.ErrOrder)
}

// TestH1CheckMeeting: ways that meet are no circle.
func TestH1CheckMeeting(t *testing.T) {
	for _, l := range turned([]api.Holding{has(1, 2, 5), has(1, 3, 5), has(2, 4, 5), has(3, 4, 5), has(1, 4, 5), has(4, 5, 5), has(2, 5, 5)}) {
		told(t, l, api.OK)
		for _, back := range []api.Holding{has(4, 1, 5), has(5, 1, 5), has(5, 4, 5), has(4, 3, 5)} {
			told(t, append(slices.Clone(l), back), api.ErrOrder)
		}
	}
}

// TestH1CheckWhich: of one holding what the chapter names first, of several what is wrong with the first, then sums, then circles.
func TestH1CheckWhich(t *testing.T) {
	byItself := map[api.Errno]api.Holding{
		api.ErrRange: has(1, 13, 5),
		api.ErrClash: has(5, 5, 5),
	}
	twice := []api.Holding{has(1, 2, 7), has(1, 2, 7)}
	tooMuch := []api.Holding{has(6, 7, 600), has(8, 7, 600)}
	for first, h := range byItself {
		for _, other := range byItself {
			told(t, []api.Holding{h, other}, first)
			told(t, slices.Concat(tooMuch, circle(1, 3), []api.Holding{h, other}), first)
		}
		told(t, append([]api.Holding{h}, twice...), first)
		told(t, append(slices.Clone(twice), h), api.ErrClash)
	}
	told(t, []api.Holding{has(1, 2, 7), has(1, 2, 1001)}, api.ErrRange)
	for _, l := range turned(append(circle(1, 3), tooMuch...)) {
		told(t, l, api.ErrSum)
	}
	told(t, []api.Holding{has(1, 2, 600), has(3, 2, 600), has(2, 1, 5)}, api.ErrSum) // of one that is in the circle too
	told(t, slices.Concat(tooMuch, circle(1, 3), twice[:1]), api.ErrClash)
}
