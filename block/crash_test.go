package block_test

import (
	"bytes"
	"slices"
	"testing"

	"quarterday/api"
)

func TestB2Crash(t *testing.T) {
	list := []string{"0a", "1b", "0c", "2d", "0e"}
	all := []int{0, 1, 2, 3, 4}
	for _, c := range []struct {
		keep []int
		torn int
		want []string
	}{
		{nil, -1, []string{"A", "B", "C"}},
		{[]int{}, 0, []string{"A", "B", "C"}},
		{all, -1, []string{"e", "b", "d"}},
		{[]int{0}, -1, []string{"a", "B", "C"}},
		{[]int{2}, -1, []string{"c", "B", "C"}},
		{[]int{4}, -1, []string{"e", "B", "C"}},
		{[]int{0, 2}, -1, []string{"c", "B", "C"}},
		{[]int{0, 4}, -1, []string{"e", "B", "C"}},
		{[]int{1, 3}, -1, []string{"A", "b", "d"}},
		// another order, twice the same, and numbers that name no Write
		{[]int{4, 3, 2, 1, 0}, -1, []string{"e", "b", "d"}},
		{[]int{2, 0}, -1, []string{"c", "B", "C"}},
		{[]int{2, 0, 2, 0, 0}, -1, []string{"c", "B", "C"}},
		{[]int{0, 2, 0}, -1, []string{"c", "B", "C"}},
		{[]int{-1, 5, most, least, 1 << 32, 256}, -1, []string{"A", "B", "C"}},
		{[]int{-1, 5, 1, most, 1, least}, 5, []string{"A", "b", "C"}},
		// the torn one: kept, not kept, or none
		{[]int{1}, 1, []string{"A", torn, "C"}},
		{[]int{1, 1}, 1, []string{"A", torn, "C"}},
		{[]int{0}, 1, []string{"a", "B", "C"}},
		{nil, 1, []string{"A", "B", "C"}},
		{all, 1, []string{"e", torn, "d"}},
		{all, 3, []string{"e", "b", torn}},
		{all, 5, []string{"e", "b", "d"}},
		{all, most, []string{"e", "b", "d"}},
		{all, least, []string{"e", "b", "d"}},
		{[]int{5, -1, 9}, 5, []string{"A", "B", "C"}},
		{[]int{-1, 0}, -1, []string{"a", "B", "C"}},
		// the torn one's block is written again by one that is kept, or not, or was written ahead
		{all, 0, []string{"e", "b", "d"}},
		{all, 2, []string{"e", "b", "d"}},
		{all, 4, []string{torn, "b", "d"}},
		{[]int{0, 1, 3}, 0, []string{torn, "b", "d"}},
		{[]int{0, 2}, 0, []string{"c", "B", "C"}},
		{[]int{2, 0}, 0, []string{"c", "B", "C"}},
		{[]int{0, 2}, 2, []string{torn, "B", "C"}},
		{[]int{2, 0}, 2, []string{torn, "B", "C"}},
		{[]int{4, 0}, 2, []string{"e", "B", "C"}},
	} {
		d := disk(t, 4)
		writes(t, d, "0A", "1B", "2C")
		flush(t, d)
		writes(t, d, list...)
		d.Crash(c.keep, c.torn)
		has(t, d, c.want...)
		for range 3 { // what there is is safe
			d.Crash(all, 0)
			has(t, d, c.want...)
		}
		flush(t, d)
		d.Crash(nil, -1)
		has(t, d, c.want...)
		if t.Failed() {
			t.Fatalf("behind Crash(%v, %d)", c.keep, c.torn)
		}
	}
}

// TestB2Since: Writes are numbered from the last Flush or Crash, and those with an error have no number.
func TestB2Since(t *testing.T) {
	d := disk(t, 3)
	writes(t, d, "0a", "1b")
	flush(t, d)
	writes(t, d, "2c", "0d")
	d.Crash([]int{1}, 0)
	has(t, d, "d", "b", "")
	writes(t, d, "1e", "2f")
	d.Crash([]int{0}, -1)
	has(t, d, "d", "e", "")
	told(t, "Write", d.Write(3, nil), api.ErrRange)
	writes(t, d, "1g")
	told(t, "Write", d.Write(0, make([]byte, 65)), api.ErrFull)
	told(t, "Write", d.Write(-1, nil), api.ErrRange)
	d.Fail(1)
	told(t, "Write", d.Write(0, []byte("no")), api.ErrState)
	told(t, "Flush", d.Flush(), api.ErrState) // is none: what was written ahead of it is not safe
	d.Fail(-1)
	writes(t, d, "2h")
	d.Crash([]int{1, 2, 3, 4, 5}, 2)
	has(t, d, "d", "e", "h")
	writes(t, d, "0i")
	flush(t, d)
	d.Crash([]int{0}, 0) // there are none
	has(t, d, "i", "e", "h")
}

// TestB2Torn: what is torn stays so till it is written again, which may be lost.
func TestB2Torn(t *testing.T) {
	d := disk(t, 3)
	writes(t, d, "0a", "1b")
	d.Crash([]int{0, 1}, 0)
	has(t, d, torn, "b")
	told(t, "Write", d.Write(0, make([]byte, 65)), api.ErrFull)
	has(t, d, torn, "b")
	flush(t, d)
	has(t, d, torn, "b")
	writes(t, d, "1c")
	has(t, d, torn, "c")
	writes(t, d, "0d")
	has(t, d, "d", "c")
	d.Crash([]int{0}, -1) // lost
	has(t, d, torn, "c")
	writes(t, d, "0e", "1f")
	d.Crash([]int{1}, 1) // lost, and another one torn
	has(t, d, torn, torn)
	writes(t, d, "0g", "1h", "0i")
	has(t, d, "i", "h")
	d.Crash([]int{0}, 5) // kept
	has(t, d, "g", torn)
	writes(t, d, "1j", "0k")
	d.Crash([]int{0, 1}, 0) // torn again
	has(t, d, "k", torn)
	writes(t, d, "1")
	has(t, d, "k", "")
	flush(t, d) // safe
	d.Crash(nil, 0)
	has(t, d, "k", "")
	writes(t, d, "2l", "2m")
	d.Crash([]int{0}, 0)
	has(t, d, "k", "", torn)
	d.Fail(0)
	told(t, "Write", d.Write(2, nil), api.ErrState)
	has(t, d, "k", "", torn)
}

// TestB2Many: a Crash ends soon with many Writes and many numbers, whatever these are.
func TestB2Many(t *testing.T) {
	const many = 200_000
	d := disk(t, api.MaxBlocks)
	keep := make([]int, many)
	for n := range many {
		told(t, "Write", d.Write(n%api.MaxBlocks, []byte{byte(n), byte(n >> 8), byte(n >> 16)}), api.OK)
		keep[n] = many - 1 - n
	}
	keep = slices.Concat(keep[api.MaxBlocks/2:], keep[api.MaxBlocks/2:]) // all but the last hundred
	d.Crash(keep, 0)
	for i := range api.MaxBlocks {
		n := many - api.MaxBlocks + i
		if i >= api.MaxBlocks/2 {
			n -= api.MaxBlocks
		}
		want := append([]byte{byte(n), byte(n >> 8), byte(n >> 16)}, make([]byte, 61)...)
		if b, err := d.Read(i); err != nil || !bytes.Equal(b, want) {
			t.Errorf("Read(%d) = %v, %v, want %v", i, b, err, want)
		}
	}
}

// TestB2Apart: disks know nothing of each other.
func TestB2Apart(t *testing.T) {
	one, other := disk(t, 2), disk(t, 2)
	writes(t, one, "0a", "1b")
	writes(t, other, "0c")
	one.Fail(2)
	flush(t, other)
	one.Crash([]int{0}, 0)
	has(t, one, torn, "")
	has(t, other, "c", "")
	steps(t, one, 0)
	steps(t, other, 2)
	other.Fail(0)
	writes(t, one, "0d")
	told(t, "Flush", other.Flush(), api.ErrState)
}
