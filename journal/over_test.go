package journal

import (
	"math"
	"testing"

	"quarterday/api"
	"quarterday/plain"
)

// TestJ1TurnsOver: sums at the edge of 64 bits. They are laid from inside: what Post lets in comes to 2 * 10^18 at most.
func TestJ1TurnsOver(t *testing.T) {
	const most, least = math.MaxInt, math.MinInt
	for _, c := range []struct {
		amounts       []int
		debit, credit int
		err           api.Errno
	}{
		{nil, 0, 0, api.OK},
		{[]int{0}, 0, 0, api.OK},
		{[]int{most}, most, 0, api.OK},
		{[]int{-most}, 0, most, api.OK},
		{[]int{most, -most}, most, most, api.OK},
		{[]int{most - 1, 1, -1, 1 - most}, most, most, api.OK},
		{[]int{most, 1}, 0, 0, api.ErrOver},
		{[]int{1, most}, 0, 0, api.ErrOver},
		{[]int{most, 1, -1}, 0, 0, api.ErrOver},           // the sides are apart: what is on one takes nothing from the other
		{[]int{most, -1, 1, -most, 1}, 0, 0, api.ErrOver}, // both
		{[]int{5, -most, -1}, 0, 0, api.ErrOver},          // the debits are right, the credits just one more
		{[]int{5, least}, 0, 0, api.ErrOver},              // the same, in one line
		{[]int{5, -most, -2}, 0, 0, api.ErrOver},          // the credits do not fit below 0 either
		{[]int{most, least, least}, 0, 0, api.ErrOver},    // 2^64, which is 0 in 64 bits
		{[]int{most, most, 2, -5}, 0, 0, api.ErrOver},     // likewise of the debits
		{[]int{most, most, most, most}, 0, 0, api.ErrOver},
	} {
		j := New()
		for i, amount := range c.amounts { // over entries, with others between that do not count
			j.entries = append(j.entries, api.Entry{Entity: 1 + i, Lines: []api.Line{{Account: "1", Cur: "USD", Amount: most}, {Account: "1", Cur: "EUR", Amount: amount}, {Account: "2", Cur: "EUR", Amount: least}}})
		}
		debit, credit, err := j.Turns("1", "EUR")
		if debit != c.debit || credit != c.credit || plain.Told(err) != c.err {
			t.Errorf("Turns of %v = %d, %d, %v, want %d, %d, %v", c.amounts, debit, credit, err, c.debit, c.credit, c.err)
		}
	}
}
