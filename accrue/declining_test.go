package accrue_test

import (
	"slices"
	"testing"

	"quarterday/accrue"
	"quarterday/api"
	"quarterday/plain"
)

// declining fails the test where Declining does not give those parts.
func declining(t *testing.T, cost, rest, n, d int, want ...int) {
	t.Helper()
	got, err := accrue.Declining(cost, rest, n, d, len(want))
	if err != nil || !slices.Equal(got, want) {
		t.Errorf("Declining of %d to %d by %d/%d over %d = %s, %v, want %s", cost, rest, n, d, len(want), short(got), err, short(want))
	}
}

func TestP3Declining(t *testing.T) {
	declining(t, 100, 0, 1, 2, 100)
	declining(t, 100, 0, 1, 2, 50, 50)
	declining(t, 100, 0, 1, 2, 50, 25, 25)
	declining(t, 100, 10, 1, 2, 50, 25, 12, 3)        // 12.5 is 12, and the last takes what is more than 10 of 13
	declining(t, 100, 1, 1, 10, 10, 9, 8, 7, 7, 58)   // 90 81 73 66 59 left
	declining(t, 1000, 100, 1, 4, 250, 188, 140, 322) // 187.5 is 188, 140.5 is 140
	declining(t, 448, 10, 1, 3, 149, 100, 66, 123)
	declining(t, 27, 10, 1, 3, 9, 6, 2, 0)
}

// TestP3OfWhatIsLeft: the part is one of all that is left, rest with it.
func TestP3OfWhatIsLeft(t *testing.T) {
	declining(t, 100, 60, 1, 4, 25, 15, 0) // of 75 it would be 19
	declining(t, 100, 40, 1, 4, 25, 19, 14, 2)
}

// TestP3Rounding: to the nearest, a half to the even one.
func TestP3Rounding(t *testing.T) {
	declining(t, 1, 0, 1, 2, 0, 1)
	declining(t, 3, 0, 1, 2, 2, 1)
	declining(t, 5, 0, 1, 2, 2, 3)
	declining(t, 7, 0, 1, 2, 4, 3)
	declining(t, 10, 0, 1, 4, 2, 8)                        // 2.5
	declining(t, 14, 0, 1, 4, 4, 10)                       // 3.5
	declining(t, 5, 0, 1, 3, 2, 1, 2)                      // 1.67, 1
	declining(t, 4, 0, 1, 3, 1, 1, 2)                      // 1.33, 1
	declining(t, 1, 0, 1, 3, 0, 0, 0, 1)                   // 0.33 of it each time
	declining(t, 1, 0, 2, 3, 1, 0, 0, 0)                   // 0.67
	declining(t, 9, 1, 500_000_000, api.MaxRatio, 4, 2, 2) // 4.5; 2.5; the last
}

// TestP3NothingEach: n of 0, all that is more than rest comes in the last.
func TestP3NothingEach(t *testing.T) {
	for _, d := range []int{1, 2, api.MaxRatio} {
		declining(t, 100, 0, 0, d, 100)
		declining(t, 100, 0, 0, d, 0, 0, 100)
		declining(t, 100, 30, 0, d, 0, 70)
		declining(t, big15, 1, 0, d, append(make([]int, 119), big15-1)...)
		declining(t, 5, 5, 0, d, 0, 0)
	}
}

// TestP3AllAtOnce: n of d, all comes in the first.
func TestP3AllAtOnce(t *testing.T) {
	for _, d := range []int{1, 2, 3, api.MaxRatio} {
		declining(t, 100, 0, d, d, 100)
		declining(t, 100, 0, d, d, 100, 0, 0)
		declining(t, 100, 30, d, d, 70, 0)
		declining(t, big15, 1, d, d, append([]int{big15 - 1}, make([]int, 119)...)...)
		declining(t, 5, 5, d, d, 0, 0)
	}
}

// TestP3Rest: a part that would leave less than rest, just so much, and one more.
func TestP3Rest(t *testing.T) {
	declining(t, 100, 49, 1, 2, 50, 1, 0)
	declining(t, 100, 50, 1, 2, 50, 0, 0)
	declining(t, 100, 51, 1, 2, 49, 0, 0)
	declining(t, 100, 99, 1, 2, 1, 0)
	declining(t, 100, 100, 1, 2, 0, 0)
	declining(t, 100, 100, 1, 2, 0)
	declining(t, 3, 2, 1, 2, 1, 0) // 1.5 would be 2
	declining(t, 0, 0, 1, 2, 0, 0, 0)
	declining(t, 0, 0, 0, 1, 0)
	declining(t, 1, 1, 1, 1, 0, 0)
	declining(t, 1, 0, 1, 1, 1, 0)
}

func TestP3Ends(t *testing.T) {
	half := big15 / 2
	declining(t, big15, 0, 1, 2, half, half/2, half/2)
	declining(t, big15, big15, 1, 2, 0, 0)
	declining(t, big15, 0, 999_999_999, api.MaxRatio, 999_999_999_000_000, 1_000_000, 0, 0) // 999999.999 is nearest to all that is left
}

func TestP3Range(t *testing.T) {
	type args struct{ cost, rest, n, d, periods int }
	for _, c := range []args{
		{-1, 0, 1, 2, 3}, {-1, -1, 1, 2, 3}, {big15 + 1, 0, 1, 2, 3}, {most, 0, 1, 2, 3}, {least, 0, 1, 2, 3}, {least, least, 1, 2, 3},
		{9, -1, 1, 2, 3}, {9, 10, 1, 2, 3}, {0, 1, 1, 2, 3}, {9, most, 1, 2, 3}, {9, least, 1, 2, 3}, {big15, big15 + 1, 1, 2, 3}, {big15 + 1, big15 + 1, 1, 2, 3},
		{9, 0, -1, 2, 3}, {9, 0, 3, 2, 3}, {9, 0, 2, 1, 3}, {9, 0, most, 2, 3}, {9, 0, least, 2, 3}, {9, 0, api.MaxRatio + 1, api.MaxRatio, 3},
		{9, 0, 0, 0, 3}, {9, 0, -1, -1, 3}, {9, 0, 0, -1, 3}, {9, 0, 1, api.MaxRatio + 1, 3}, {9, 0, api.MaxRatio + 1, api.MaxRatio + 1, 3}, {9, 0, 1, most, 3}, {9, 0, least, least, 3}, {9, 0, most, most, 3},
		{9, 0, 1, 2, 0}, {9, 0, 1, 2, -1}, {9, 0, 1, 2, 121}, {9, 0, 1, 2, most}, {9, 0, 1, 2, least},
		{}, {least, most, least, most, least},
	} {
		got, err := accrue.Declining(c.cost, c.rest, c.n, c.d, c.periods)
		if plain.Told(err) != api.ErrRange || len(got) != 0 {
			t.Errorf("Declining of %v = %s, %v, want ErrRange alone", c, short(got), err)
		}
	}
	for _, c := range []args{
		{0, 0, 1, 2, 3}, {big15, 0, 1, 2, 3}, {9, 9, 1, 2, 3}, {big15, big15, 1, 2, 3}, {9, 0, 0, 2, 3}, {9, 0, 2, 2, 3},
		{9, 0, 0, 1, 3}, {9, 0, 1, 1, 3}, {9, 0, 1, api.MaxRatio, 3}, {9, 0, api.MaxRatio, api.MaxRatio, 3}, {9, 0, 1, 2, 1}, {9, 0, 1, 2, 120},
	} {
		got, err := accrue.Declining(c.cost, c.rest, c.n, c.d, c.periods)
		sum := 0
		for _, n := range got {
			sum += n
		}
		if err != nil || len(got) != c.periods || sum != c.cost-c.rest { // all of what is more than rest
			t.Errorf("Declining of %v = %s, %v, in all %d", c, short(got), err, sum)
		}
	}
}
