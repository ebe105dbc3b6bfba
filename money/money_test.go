package money_test

import (
	"math"
	"math/big"
	"math/rand/v2"
	"slices"
	"testing"

	"quarterday/api"
	"quarterday/money"
	"quarterday/plain"
)

const (
	most  = math.MaxInt
	least = math.MinInt
)

// told fails the test where an error is not the one that is wanted.
func told(t *testing.T, what string, err error, want api.Errno) {
	t.Helper()
	if got := plain.Told(err); got != want {
		t.Errorf("%s: error %v, want %v", what, got, want)
	}
}

// edges are numbers at which a reckoning may go wrong, and some of any size.
func edges(r *rand.Rand) []int {
	l := []int{0, 1, -1, 2, -2, 3, -3, 10, -10, api.MaxRatio, -api.MaxRatio, 1 << 62, -1 << 62, most, most - 1, least, least + 1}
	for range 200 {
		l = append(l, int(r.Uint64())>>r.IntN(64))
	}
	return l
}

func TestM1Add(t *testing.T) {
	for _, c := range []struct {
		a, b, want int
		err        api.Errno
	}{
		{0, 0, 0, api.OK},
		{2, 3, 5, api.OK},
		{2, -3, -1, api.OK},
		{most, 0, most, api.OK},
		{least, 0, least, api.OK},
		{most - 1, 1, most, api.OK},
		{least + 1, -1, least, api.OK},
		{most, least, -1, api.OK},
		{least, most, -1, api.OK},
		{most, 1, 0, api.ErrOver},
		{1, most, 0, api.ErrOver},
		{most, most, 0, api.ErrOver},
		{least, -1, 0, api.ErrOver},
		{-1, least, 0, api.ErrOver},
		{least, least, 0, api.ErrOver},
	} {
		got, err := money.Add(c.a, c.b)
		told(t, "Add", err, c.err)
		if got != c.want {
			t.Errorf("Add(%d, %d) = %d, want %d", c.a, c.b, got, c.want)
		}
	}
}

func TestM1Sum(t *testing.T) {
	for _, c := range []struct {
		l    []int
		want int
		err  api.Errno
	}{
		{nil, 0, api.OK},
		{[]int{}, 0, api.OK},
		{[]int{7}, 7, api.OK},
		{[]int{1, 2, -4}, -1, api.OK},
		{[]int{most}, most, api.OK},
		{[]int{least}, least, api.OK},
		{[]int{most, 1, -1}, most, api.OK},
		{[]int{least, -1, 1}, least, api.OK},
		{[]int{most, most, most, least, least, least}, -3, api.OK},
		{[]int{least, least, most, most, 2}, 0, api.OK},
		{[]int{most, 1}, 0, api.ErrOver},
		{[]int{least, -1}, 0, api.ErrOver},
		{[]int{most, most, 2}, 0, api.ErrOver},
		{[]int{least, least}, 0, api.ErrOver},
		{[]int{most, most, most, most, 4}, 0, api.ErrOver},
	} {
		got, err := money.Sum(c.l)
		told(t, "Sum", err, c.err)
		if got != c.want {
			t.Errorf("Sum(%v) = %d, want %d", c.l, got, c.want)
		}
	}
}

func TestM1SumReadsNothingElse(t *testing.T) {
	memory := []int{1, 2, most, most}
	got, err := money.Sum(memory[:2])
	told(t, "Sum", err, api.OK)
	if got != 3 || !slices.Equal(memory, []int{1, 2, most, most}) {
		t.Errorf("Sum = %d, and %v is left", got, memory)
	}
}

func TestM1Ratio(t *testing.T) {
	for _, c := range []struct {
		a, n, d, want int
		err           api.Errno
	}{
		{5, 1, 2, 2, api.OK},
		{3, 1, 2, 2, api.OK},
		{1, 1, 2, 0, api.OK},
		{-1, 1, 2, 0, api.OK},
		{-3, 1, 2, -2, api.OK},
		{-5, 1, 2, -2, api.OK},
		{-7, 1, 2, -4, api.OK},
		{1, 2, 3, 1, api.OK},
		{1, 1, 3, 0, api.OK},
		{-1, 2, 3, -1, api.OK},
		{0, 1, 1, 0, api.OK},
		{9, 0, 1, 0, api.OK},
		{-9, 0, 1, 0, api.OK},
		{7, api.MaxRatio, api.MaxRatio, 7, api.OK},
		{most, 1, 1, most, api.OK},
		{least, 1, 1, least, api.OK},
		{most, api.MaxRatio, api.MaxRatio, most, api.OK},
		{least, api.MaxRatio, api.MaxRatio, least, api.OK},
		{1 << 62, 2, 1, 0, api.ErrOver},
		{-1 << 62, 2, 1, least, api.OK},
		{most, 2, 2, most, api.OK},
		{most, api.MaxRatio, 1, 0, api.ErrOver},
		{least, api.MaxRatio, 1, 0, api.ErrOver},
		{most, 2, 1, 0, api.ErrOver},
		{least, 4, 1, 0, api.ErrOver},
		{least, 3, 2, 0, api.ErrOver},
	} {
		got, err := money.Ratio(c.a, c.n, c.d)
		told(t, "Ratio", err, c.err)
		if got != c.want {
			t.Errorf("Ratio(%d, %d, %d) = %d, want %d", c.a, c.n, c.d, got, c.want)
		}
	}
}

func TestM1RatioRange(t *testing.T) {
	for _, c := range [][3]int{
		{1, -1, 1}, {1, api.MaxRatio + 1, 1}, {1, 1, 0}, {1, 1, -1}, {1, 1, api.MaxRatio + 1},
		{0, 0, 0}, {most, most, 1}, {least, least, 1}, {1, 1, most}, {1, 1, least}, {most, api.MaxRatio, 0},
	} {
		got, err := money.Ratio(c[0], c[1], c[2])
		told(t, "Ratio", err, api.ErrRange)
		if got != 0 {
			t.Errorf("Ratio of %v = %d with an error", c, got)
		}
	}
}

// TestM1RatioAtEnds: a half just below and above what 64 bits hold goes to the even one.
func TestM1RatioAtEnds(t *testing.T) {
	r := rand.New(rand.NewPCG(1, 2))
	for d := 2; d <= 2000; d += 2 {
		for n := d + 1; n < d+4; n++ {
			near := new(big.Int).Mul(new(big.Int).Lsh(big.NewInt(1), 63), big.NewInt(int64(d)))
			a := int(near.Div(near, big.NewInt(int64(n))).Int64())
			for _, b := range []int{a - 1, a, a + 1, -a - 1, -a, 1 - a} {
				checkRatio(t, b, n, d)
			}
		}
	}
	for _, a := range edges(r) {
		for range 50 {
			checkRatio(t, a, r.IntN(api.MaxRatio+1)>>r.IntN(30), 1+r.IntN(api.MaxRatio)>>r.IntN(30))
		}
	}
}

func checkRatio(t *testing.T, a, n, d int) {
	t.Helper()
	want, bad := slowRatio(a, n, d)
	got, err := money.Ratio(a, n, d)
	told(t, "Ratio", err, bad)
	if got != want {
		t.Errorf("Ratio(%d, %d, %d) = %d, want %d", a, n, d, got, want)
	}
}

// slowRatio reckons with numbers of any size: the floor, and one more if the rest is above a half, or is it and the floor is odd.
func slowRatio(a, n, d int) (int, api.Errno) {
	below := big.NewInt(int64(d))
	floor, rest := new(big.Int).DivMod(new(big.Int).Mul(big.NewInt(int64(a)), big.NewInt(int64(n))), below, new(big.Int))
	half := rest.Lsh(rest, 1).Cmp(below)
	if half > 0 || half == 0 && floor.Bit(0) == 1 {
		floor.Add(floor, big.NewInt(1))
	}
	if !floor.IsInt64() {
		return 0, api.ErrOver
	}
	return int(floor.Int64()), api.OK
}
