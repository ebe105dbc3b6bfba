package keep_test

import (
	"fmt"
	"math"
	"math/rand/v2"
	"slices"
	"strings"
	"testing"

	"quarterday/api"
	"quarterday/block"
	"quarterday/frame"
	"quarterday/keep"
	"quarterday/plain"
)

const (
	fewest = 150 // blocks
	most   = math.MaxInt
	least  = math.MinInt
	big15  = api.MaxAmount
)

// disk makes one.
func disk(t *testing.T, blocks int) *block.Disk {
	t.Helper()
	d, err := block.New(blocks)
	if err != nil {
		t.Fatal(err)
	}
	return d
}

// laid is one on which entries are kept, all of them safe.
func laid(t *testing.T, l ...api.Entry) *block.Disk {
	t.Helper()
	d := disk(t, fewest)
	format(t, d)
	if len(l) > 0 {
		save(t, d, l)
	}
	d.Crash(nil, 0)
	return d
}

// told fails the test where a call's error is another one.
func told(t *testing.T, call string, err error, want api.Errno) {
	t.Helper()
	if plain.Told(err) != want {
		t.Errorf("%s: %v, want %v", call, err, want)
	}
}

// format is a Format without an error, behind which nothing is kept.
func format(t *testing.T, d *block.Disk) {
	t.Helper()
	told(t, "Format", keep.Format(d), api.OK)
	has(t, d)
}

// save is a Save without an error, behind which just these are kept.
func save(t *testing.T, d *block.Disk, l []api.Entry) {
	t.Helper()
	told(t, fmt.Sprintf("Save of %d", len(l)), keep.Save(d, l), api.OK)
	has(t, d, l...)
}

// loaded is a Load without an error.
func loaded(t *testing.T, d *block.Disk) []api.Entry {
	t.Helper()
	l, err := keep.Load(d)
	if err != nil {
		t.Fatalf("Load: %v", err)
	}
	return l
}

// has fails the test where others are kept.
func has(t *testing.T, d *block.Disk, want ...api.Entry) {
	t.Helper()
	if got := loaded(t, d); !equal(got, want) {
		t.Errorf("Load has others: %s", unlike(got, want))
	}
}

// isNone fails the test where a disk is one on which something may be kept.
func isNone(t *testing.T, d *block.Disk) {
	t.Helper()
	if l, err := keep.Load(d); plain.Told(err) != api.ErrFile || l != nil {
		t.Errorf("Load = %v, %v, want ErrFile alone", l, err)
	}
	for _, l := range [][]api.Entry{nil, some(3), {{Entity: -1}}} {
		told(t, fmt.Sprintf("Save of %d", len(l)), keep.Save(d, l), api.ErrFile)
	}
}

// refuses fails the test where a Save answers something else than an error, ahead of those of the disk, or changes something.
func refuses(t *testing.T, d *block.Disk, l []api.Entry, want api.Errno) {
	t.Helper()
	was, steps := image(d), d.Steps()
	for _, fail := range []int{-1, 0} {
		d.Fail(fail)
		told(t, fmt.Sprintf("Save of %d", len(l)), keep.Save(d, l), want)
	}
	d.Fail(-1)
	if d.Steps() != steps || !slices.Equal(image(d), was) {
		t.Errorf("Save of %d changes something, with %v", len(l), want)
	}
}

// image is what all blocks of a disk have.
func image(d *block.Disk) (all []string) {
	for i := range d.Blocks() {
		b, err := d.Read(i)
		all = append(all, string(b)+fmt.Sprint(err))
	}
	return all
}

// equal tells whether two lists have the same entries.
func equal(a, b []api.Entry) bool {
	return slices.EqualFunc(a, b, same)
}

func same(a, b api.Entry) bool {
	return a.Ref == b.Ref && a.Entity == b.Entity && a.Period == b.Period && slices.Equal(a.Lines, b.Lines)
}

// unlike tells how many there are of two lists, and the first ones that are not the same.
func unlike(a, b []api.Entry) string {
	n := 0
	for n < min(len(a), len(b)) && same(a[n], b[n]) {
		n++
	}
	return fmt.Sprintf("%d, %d, from %d on: %+v, %+v", len(a), len(b), n, a[n:min(len(a), n+1)], b[n:min(len(b), n+1)])
}

// begins tells whether a list begins with a part.
func begins(l, part []api.Entry) bool {
	return len(part) <= len(l) && equal(l[:len(part)], part)
}

// written tells how many bytes an entry takes.
func written(e api.Entry) int {
	b, err := frame.Entry(e)
	if err != nil {
		return -1
	}
	return len(b)
}

// sized is an entry that takes so many bytes, 4 or more, unlike others.
func sized(bytes, unlike int) api.Entry {
	rest := bytes - 4
	e := api.Entry{Entity: unlike % 60, Period: unlike / 60 % 60}
	ref := min(rest, 9)
	if rest-ref == 1 || rest-ref == 2 { // a line takes 3 at least
		ref -= 2
	}
	e.Ref = text(ref, unlike)
	for rest -= ref; rest > 0; {
		take := min(rest, 51)
		if rest-take == 1 || rest-take == 2 {
			take -= 2
		}
		account := min(take-3, api.MaxName)
		e.Lines = append(e.Lines, api.Line{Account: text(account, unlike), Cur: text(take-3-account, unlike+1), Amount: unlike%100 - 50})
		rest -= take
	}
	return e
}

// text has so many bytes, unlike others.
func text(bytes, unlike int) string {
	return strings.Repeat(fmt.Sprint(unlike, "/"), bytes+1)[:bytes]
}

// list is one of so many entries of so many bytes.
func list(many, bytes int) (l []api.Entry) {
	for i := range many {
		l = append(l, sized(bytes, i))
	}
	return l
}

// some are so many entries of all lengths.
func some(many int) (l []api.Entry) {
	for i := range many {
		l = append(l, sized([]int{40, 61, 4, 90, 200, 22, 33, 128, 58}[i%9], i))
	}
	return l
}

// all is one list of several.
func all(lists ...[]api.Entry) []api.Entry {
	return slices.Concat(lists...)
}

// put is a list with another entry at a place.
func put(l []api.Entry, at int, e api.Entry) []api.Entry {
	l = slices.Clone(l)
	l[at] = e
	return l
}

// room is how much entries need, with 2 bytes more for each.
func room(l []api.Entry) (n int) {
	for _, e := range l {
		n += written(e) + 2
	}
	return n
}

// goesOn fails the test where a disk, on which entries are kept, is not one as any other.
func goesOn(t *testing.T, d *block.Disk, l []api.Entry) {
	t.Helper()
	has(t, d, l...)
	for i := range 3 {
		l = append(slices.Clone(l), sized(4+33*i, 1000+i))
		save(t, d, l)
		d.Crash([]int{0, 1, 3}, i)
		has(t, d, l...)
	}
	refuses(t, d, l[1:], api.ErrOrder)
	format(t, d)
	d.Crash(nil, 0)
	has(t, d)
	l = list(6000/202, 200)
	save(t, d, l)
	d.Crash(nil, 0)
	has(t, d, l...)
}

// crash is how a disk crashes.
type crash struct {
	keep []int
	torn int
}

// crashes are many ways to crash behind at most n Writes: with none, one, all but one, the first ones, the last ones, all, some of them kept; and with each torn. Of very many Writes not each one is the one.
func crashes(n int) []crash {
	r := rand.New(rand.NewPCG(16, uint64(n)))
	every := numbers(0, n)
	ways := []crash{{nil, -1}, {nil, 0}, {every, -1}}
	for i := 0; i < n; i += 1 + n/8 {
		others := append(numbers(0, i), numbers(i+1, n)...)
		ways = append(ways, crash{every, i}, crash{[]int{i}, -1}, crash{[]int{i}, i}, crash{others, -1}, crash{numbers(0, i), i - 1}, crash{numbers(i, n), i})
	}
	for range min(n, 10) {
		ways = append(ways, someCrash(r, n))
	}
	return ways
}

// someCrash is any way.
func someCrash(r *rand.Rand, n int) crash {
	c := crash{torn: r.IntN(n+2) - 1}
	odds := 1 + r.IntN(4)
	for i := range n {
		if r.IntN(5) < odds {
			c.keep = append(c.keep, i)
		}
	}
	return c
}

func numbers(from, to int) (l []int) {
	for i := from; i < to; i++ {
		l = append(l, i)
	}
	return l
}
