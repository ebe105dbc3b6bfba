package allot_test

import (
	"slices"
	"testing"

	"quarterday/allot"
	"quarterday/api"
	"quarterday/plain"
)

// steps fails the test where Steps is not what is wanted.
func steps(t *testing.T, weights [][]int, amounts []int, want ...int) {
	t.Helper()
	got, err := allot.Steps(weights, amounts)
	if err != nil || !slices.Equal(got, want) {
		t.Errorf("Steps of %v by %s = %v, %v, want %v", amounts, short(weights), got, err, want)
	}
}

// noSteps fails the test where Steps does not tell that error alone.
func noSteps(t *testing.T, weights [][]int, amounts []int, want api.Errno) {
	t.Helper()
	got, err := allot.Steps(weights, amounts)
	if plain.Told(err) != want || len(got) != 0 {
		t.Errorf("Steps of %s by %s = %v, %v, want %v alone", short(amounts), short(weights), got, err, want)
	}
}

// square has n rows of n weights w.
func square(n, w int) (l [][]int) {
	for range n {
		l = append(l, slices.Repeat([]int{w}, n))
	}
	return l
}

func TestA3Steps(t *testing.T) {
	none := []int{0, 0, 0}
	steps(t, [][]int{{0, 1, 2, 1}, {0, 0, 3, 1}, {0, 0, 0, 0}, {0, 0, 0, 0}}, []int{100, 15, 7, 3}, 0, 0, 87, 38) // 25 50 25; then of 40 30 10
	steps(t, [][]int{{0, 1, 2, 1}, {0, 0, 3, 1}, {0, 0, 0, 9}, {0, 0, 0, 0}}, []int{100, 15, 7, 3}, 0, 0, 0, 125)
	steps(t, [][]int{{0, 1, 1, 1}, {0, 0, 0, 0}, {0, 0, 0, 0}, {0, 0, 0, 0}}, []int{10, 0, 0, 0}, 0, 4, 3, 3)
	steps(t, [][]int{{0, 1, 1, 1}, {0, 0, 0, 0}, {0, 0, 0, 0}, {0, 0, 0, 0}}, []int{-11, 1, 1, 1}, 0, -3, -3, -2)
	steps(t, [][]int{{0, 1, 1}, none, none}, []int{0, 5, 6}, 0, 5, 6)             // nothing to give
	steps(t, [][]int{{0, 1, 1}, none, none}, []int{5, 0, 0}, 0, 3, 2)             // the first of equal ones
	steps(t, [][]int{{0, 1, 1}, {0, 0, 1}, none}, []int{5, 0, 0}, 0, 0, 5)        // 3 2, then 3
	steps(t, [][]int{{0, 1, 1}, {0, 0, 1}, none}, []int{10, -5, 6}, 0, 0, 11)     // the second has 0 then
	steps(t, [][]int{{0, 1, 0}, {0, 0, 1}, none}, []int{-10, 4, 6}, 0, 0, 0)      // all of it is 0 in the end
	steps(t, [][]int{{0, 0, 1}, none, none}, []int{10, 4, 6}, 0, 4, 16)           // past the second
	steps(t, [][]int{{0, 2, 4}, {0, 0, 1}, none}, []int{-100, 33, 50}, 0, 0, -17) // what it has then is 0
}

// TestA3Few: none, one and two.
func TestA3Few(t *testing.T) {
	steps(t, nil, nil)
	steps(t, [][]int{}, []int{})
	for _, n := range []int{0, 1, -1, big15, -big15} {
		for _, w := range []int{0, 1, api.MaxRatio} {
			steps(t, [][]int{{w}}, []int{n}, n)
			steps(t, [][]int{{w, 0}, {w, w}}, []int{n, 5}, n, 5)
			steps(t, [][]int{{w, 1}, {w, w}}, []int{n, 5}, 0, n+5)
		}
	}
}

// TestA3BehindAlone: weights of its own and of those ahead change nothing.
func TestA3BehindAlone(t *testing.T) {
	for _, w := range []int{0, 1, 7, api.MaxRatio} {
		steps(t, [][]int{{w, 1, 2, 1}, {w, w, 3, 1}, {w, w, w, 0}, {w, w, w, w}}, []int{100, 15, 7, 3}, 0, 0, 87, 38)
		steps(t, [][]int{{w, 0, 0}, {w, w, 0}, {w, w, w}}, []int{1, 2, 3}, 1, 2, 3)
	}
}

// TestA3Keep: those whose weights behind them are all 0 keep theirs, and what came to them.
func TestA3Keep(t *testing.T) {
	steps(t, [][]int{{9, 0, 0, 0}, {9, 9, 1, 1}, {9, 9, 9, 1}, {9, 9, 9, 9}}, []int{10, 20, 30, 40}, 10, 0, 0, 90)
	steps(t, [][]int{{0, 1, 1, 0}, {9, 9, 0, 0}, {9, 9, 9, 1}, {9, 9, 9, 9}}, []int{10, 20, 30, 40}, 0, 25, 0, 75)
	steps(t, [][]int{{0, 1, 1, 0}, {9, 9, 0, 1}, {9, 9, 9, 0}, {9, 9, 9, 9}}, []int{10, 20, 30, 40}, 0, 0, 35, 65)
	for n := range api.MaxRules + 1 {
		amounts := make([]int, n)
		for i := range amounts {
			amounts[i] = i*i - 50
		}
		steps(t, square(n, 0), amounts, amounts...)
	}
}

// TestA3MaxRules: as many as may be, and one more, ahead of all that is wrong else.
func TestA3MaxRules(t *testing.T) {
	for _, n := range []int{19, api.MaxRules} {
		want := make([]int, n)
		want[n-1] = n * big15
		steps(t, square(n, 1), slices.Repeat([]int{big15}, n), want...) // more than an amount may be comes together
		want[n-1] = -n * big15
		steps(t, square(n, api.MaxRatio), slices.Repeat([]int{-big15}, n), want...)
	}
	for _, n := range []int{api.MaxRules + 1, api.MaxRules + 2, 41, 1000} {
		noSteps(t, square(n, 1), slices.Repeat([]int{1}, n), api.ErrFull)
		noSteps(t, square(n, -1), slices.Repeat([]int{least}, n), api.ErrFull)
		noSteps(t, nil, make([]int, n), api.ErrFull)
		noSteps(t, square(n-1, 1), make([]int, n), api.ErrFull)
	}
	noSteps(t, nil, make([]int, 100_000), api.ErrFull)
}

// TestA3Shape: not as many rows, or weights in one, as amounts.
func TestA3Shape(t *testing.T) {
	for n := range api.MaxRules + 1 {
		amounts := make([]int, n)
		noSteps(t, square(n+1, 1), amounts, api.ErrShape)
		noSteps(t, append(square(n, 1), nil), amounts, api.ErrShape)
		noSteps(t, append(square(n, 1), amounts), amounts, api.ErrShape) // a row more
		if n == 0 {
			continue
		}
		noSteps(t, nil, amounts, api.ErrShape)
		noSteps(t, square(n-1, 1), amounts, api.ErrShape)
		noSteps(t, square(n, 1)[1:], amounts, api.ErrShape) // a row less
		noSteps(t, make([][]int, n), amounts, api.ErrShape)
		for at := range n {
			rows := square(n, 1)
			rows[at] = rows[at][1:]
			noSteps(t, rows, amounts, api.ErrShape)
			rows[at] = make([]int, n+1)
			noSteps(t, rows, amounts, api.ErrShape)
			rows[at] = nil
			noSteps(t, rows, amounts, api.ErrShape)
		}
	}
	noSteps(t, make([][]int, 100_000), []int{1}, api.ErrShape)
	noSteps(t, [][]int{make([]int, 100_000)}, []int{1}, api.ErrShape)
	noSteps(t, [][]int{{}}, nil, api.ErrShape)
}

// TestA3Weights: of whatever row and place, also of those that stand ahead of its own.
func TestA3Weights(t *testing.T) {
	for _, n := range []int{1, 2, 3, api.MaxRules} {
		amounts := slices.Repeat([]int{3}, n)
		for row := range n {
			for at := range n {
				for _, w := range []int{0, 1, api.MaxRatio - 1, api.MaxRatio} {
					rows := square(n, 1)
					rows[row][at] = w
					if got, err := allot.Steps(rows, amounts); err != nil || total(got) != 3*n {
						t.Errorf("Steps by %v = %v, %v", rows, got, err)
					}
				}
				for _, w := range []int{-1, api.MaxRatio + 1, most, least} {
					rows := square(n, 1)
					rows[row][at] = w
					noSteps(t, rows, amounts, api.ErrRange)
					rows = square(n, 0) // though nothing is given
					rows[row][at] = w
					noSteps(t, rows, make([]int, n), api.ErrRange)
				}
			}
		}
	}
}

// TestA3Amounts: just at and just past the bound, of whatever row.
func TestA3Amounts(t *testing.T) {
	for _, n := range []int{1, 2, 3, api.MaxRules} {
		for at := range n {
			for _, amount := range []int{big15, -big15, big15 - 1, 1 - big15} {
				amounts := slices.Repeat([]int{1}, n)
				amounts[at] = amount
				want := make([]int, n)
				want[n-1] = n - 1 + amount
				steps(t, square(n, 1), amounts, want...)
				steps(t, square(n, 0), amounts, amounts...)
			}
			for _, amount := range []int{big15 + 1, -big15 - 1, big18, most, least} {
				amounts := slices.Repeat([]int{1}, n)
				amounts[at] = amount
				noSteps(t, square(n, 1), amounts, api.ErrRange)
				noSteps(t, square(n, 0), amounts, api.ErrRange)
			}
		}
	}
	noSteps(t, square(2, 1), []int{big15 + 1, -big15 - 1}, api.ErrRange) // 0 together
}

// TestA3Which: how many amounts, then how many rows and weights, of all rows, then what they are.
func TestA3Which(t *testing.T) {
	noSteps(t, [][]int{{-1, 1}, {1}}, []int{1, 1}, api.ErrShape) // the weight is of a row ahead
	noSteps(t, [][]int{{1, 1}, {-1}}, []int{1, 1}, api.ErrShape)
	noSteps(t, [][]int{{-1, -1}}, []int{least, 1}, api.ErrShape)
	noSteps(t, [][]int{{1, 1}, nil}, []int{big15 + 1, 1}, api.ErrShape)
	noSteps(t, [][]int{{1, 1}, {1, 1}, {-1, 1}}, []int{1, 1}, api.ErrShape)
	noSteps(t, [][]int{{-1}}, slices.Repeat([]int{least}, api.MaxRules+1), api.ErrFull)
	noSteps(t, square(api.MaxRules+1, -1), slices.Repeat([]int{1}, api.MaxRules), api.ErrShape)
}

// total adds up.
func total(l []int) (sum int) {
	for _, n := range l {
		sum += n
	}
	return sum
}
