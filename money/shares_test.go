package money_test

import (
	"math/big"
	"math/rand/v2"
	"slices"
	"testing"

	"quarterday/api"
	"quarterday/money"
)

// many gives a list of n numbers w.
func many(n, w int) []int {
	return slices.Repeat([]int{w}, n)
}

func TestM2Shares(t *testing.T) {
	for _, c := range []struct {
		total         int
		weights, want []int
	}{
		{10, []int{1, 1, 1}, []int{4, 3, 3}},
		{-10, []int{1, 1, 1}, []int{-4, -3, -3}},
		{11, []int{1, 1, 1}, []int{4, 4, 3}},
		{0, []int{1, 2}, []int{0, 0}},
		{1, []int{1}, []int{1}},
		{7, []int{0, 5, 0}, []int{0, 7, 0}},
		{1, []int{0, 4, 0, 3, 1}, []int{0, 1, 0, 0, 0}},
		{5, []int{0, 4, 3, 3}, []int{0, 2, 2, 1}},
		{10, []int{1, 2, 4}, []int{1, 3, 6}},      // 1 3/7, 2 6/7, 5 5/7
		{3, []int{1, 3, 3}, []int{1, 1, 1}},       // 3/7, 1 2/7, 1 2/7
		{2, []int{1, 3, 3}, []int{0, 1, 1}},       // 2/7, 6/7, 6/7
		{-2, []int{1, 3, 3}, []int{0, -1, -1}},    // the same below 0
		{1, []int{1, 3, 3}, []int{0, 1, 0}},       // of equal ones the first
		{1, []int{0, 0, 1, 1}, []int{0, 0, 1, 0}}, // a weight of 0 gets none
		{most, []int{1}, []int{most}},
		{least, []int{1}, []int{least}},
		{least, []int{0, api.MaxRatio, 0}, []int{0, least, 0}},
		{most, []int{1, 1}, []int{1 << 62, 1<<62 - 1}},
		{least, []int{1, 1}, []int{-1 << 62, -1 << 62}},
		{40, many(40, api.MaxRatio), many(40, 1)},
		{39, many(40, api.MaxRatio), append(many(39, 1), 0)},
		{-39, many(40, 1), append(many(39, -1), 0)},
	} {
		got, err := money.Shares(c.total, c.weights)
		told(t, "Shares", err, api.OK)
		if !slices.Equal(got, c.want) {
			t.Errorf("Shares(%d, %v) = %v, want %v", c.total, c.weights, got, c.want)
		}
	}
}

func TestM2SharesWrong(t *testing.T) {
	for _, c := range []struct {
		weights []int
		err     api.Errno
	}{
		{nil, api.ErrNone},
		{[]int{}, api.ErrNone},
		{[]int{0}, api.ErrNone},
		{many(40, 0), api.ErrNone},
		{[]int{-1}, api.ErrRange},
		{[]int{1, -1}, api.ErrRange},
		{[]int{1, api.MaxRatio + 1}, api.ErrRange},
		{[]int{0, -1}, api.ErrRange},
		{[]int{least}, api.ErrRange},
		{[]int{most, most}, api.ErrRange},
		{many(41, 1), api.ErrFull},
		{many(41, 0), api.ErrFull},
		{many(41, -1), api.ErrFull},
	} {
		for _, total := range []int{0, 5, -5, most, least} {
			got, err := money.Shares(total, c.weights)
			told(t, "Shares", err, c.err)
			if len(got) != 0 {
				t.Errorf("Shares(%d, %v) = %v with an error", total, c.weights, got)
			}
		}
	}
}

// TestM2SharesKeepOff: the weights stay as they are, what lies behind them too, and two answers share nothing.
func TestM2SharesKeepOff(t *testing.T) {
	memory := []int{3, 2, 1, 9, 9}
	one, err := money.Shares(7, memory[:3])
	told(t, "Shares", err, api.OK)
	if !slices.Equal(memory, []int{3, 2, 1, 9, 9}) {
		t.Errorf("weights are %v now", memory)
	}
	want := slices.Clone(one)
	other, err := money.Shares(7, memory[:3])
	told(t, "Shares", err, api.OK)
	clear(other)
	clear(memory)
	if !slices.Equal(one, want) {
		t.Errorf("shares %v became %v", want, one)
	}
}

func TestM2SharesAgainstSlow(t *testing.T) {
	r := rand.New(rand.NewPCG(3, 4))
	for _, total := range edges(r) {
		for range 40 {
			weights := make([]int, 1+r.IntN(api.MaxShares))
			for i := range weights {
				weights[i] = r.IntN(api.MaxRatio+1) >> r.IntN(31)
			}
			weights[r.IntN(len(weights))] = api.MaxRatio
			want := slowShares(total, weights)
			got, err := money.Shares(total, weights)
			told(t, "Shares", err, api.OK)
			if !slices.Equal(got, want) {
				t.Errorf("Shares(%d, %v) = %v, want %v", total, weights, got, want)
			}
			if sum, err := money.Sum(got); sum != total || err != nil {
				t.Errorf("Shares(%d, %v) are %d, %v together", total, weights, sum, err)
			}
		}
	}
}

// slowShares does it as the chapter tells it: one by one, each time looking for the one of which most is cut off still.
func slowShares(total int, weights []int) []int {
	all := new(big.Int)
	for _, w := range weights {
		all.Add(all, big.NewInt(int64(w)))
	}
	left := big.NewInt(int64(total))
	parts, cut := make([]*big.Int, len(weights)), make([]*big.Int, len(weights))
	for i, w := range weights {
		parts[i], cut[i] = new(big.Int).QuoRem(new(big.Int).Mul(big.NewInt(int64(total)), big.NewInt(int64(w))), all, new(big.Int))
		left.Sub(left, parts[i])
	}
	for left.Sign() != 0 {
		best := 0
		for i := range cut {
			if cut[i].CmpAbs(cut[best]) > 0 {
				best = i
			}
		}
		one := big.NewInt(int64(left.Sign()))
		parts[best].Add(parts[best], one)
		left.Sub(left, one)
		cut[best] = new(big.Int)
	}
	shares := make([]int, len(parts))
	for i, p := range parts {
		shares[i] = int(p.Int64())
	}
	return shares
}
