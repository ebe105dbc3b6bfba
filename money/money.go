// Package money has what is reckoned with.
package money

import (
	"math"
	"math/bits"

	"quarterday/api"
)

// Add adds.
func Add(a, b int) (int, error) {
	return Sum([]int{a, b})
}

// Sum adds up. It keeps 128 bits, because only what comes of it in the end has to fit into 64.
func Sum(l []int) (int, error) {
	var high, low uint64
	for _, a := range l {
		var carry uint64
		low, carry = bits.Add64(low, uint64(a), 0)
		high += uint64(a>>63) + carry
	}
	sum := int(low)
	if high != uint64(sum>>63) {
		return 0, api.ErrOver
	}
	return sum, nil
}

// Ratio takes a part.
func Ratio(a, n, d int) (int, error) {
	if !isPart(n) || !isPart(d) || d == 0 {
		return 0, api.ErrRange
	}
	high, low := bits.Mul64(size(a), uint64(n))
	if high >= uint64(d) { // Div64 panics on a quotient of more than 64 bits
		return 0, api.ErrOver
	}
	whole, rest := bits.Div64(high, low, uint64(d))
	return signed(whole, roundsUp(whole, rest, uint64(d)), a < 0)
}

// isPart tells whether n may be a number of a ratio, or a weight.
func isPart(n int) bool {
	return n >= 0 && n <= api.MaxRatio
}

// roundsUp is 1 where a whole number and rest/d are nearer to the next whole number, or just between and that is the even one.
func roundsUp(whole, rest, d uint64) uint64 {
	if 2*rest > d || 2*rest == d && whole%2 == 1 {
		return 1
	}
	return 0
}

// size is how far a is from 0. It has no sign, because that of the least int is no int.
func size(a int) uint64 {
	if a < 0 {
		return -uint64(a)
	}
	return uint64(a)
}

// signed is size and more together, negated where below holds. They come in apart, because their sum may be of more than 64 bits.
func signed(size, more uint64, below bool) (int, error) {
	limit := uint64(math.MaxInt)
	if below {
		limit++
	}
	if size > limit || more > limit-size {
		return 0, api.ErrOver
	}
	return withSign(size+more, below), nil
}

// withSign is size, negated where below holds, of a size that fits.
func withSign(size uint64, below bool) int {
	if below {
		return int(-size)
	}
	return int(size)
}
