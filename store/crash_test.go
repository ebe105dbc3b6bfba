package store_test

import (
	"fmt"
	"math/rand/v2"
	"testing"

	"quarterday/api"
	"quarterday/block"
	"quarterday/store"
)

// crash is how a disk crashes.
type crash struct {
	keep []int
	torn int
}

// crashes are many ways to crash behind at most n Writes: with none, one, all but one, the first ones, the last ones, all, some of them kept; and with each torn.
func crashes(n int) []crash {
	r := rand.New(rand.NewPCG(7, uint64(n)))
	all := numbers(0, n)
	ways := []crash{{nil, -1}, {nil, 0}, {all, -1}}
	for i := range n {
		others := append(numbers(0, i), numbers(i+1, n)...)
		ways = append(ways, crash{all, i}, crash{[]int{i}, -1}, crash{[]int{i}, i}, crash{others, -1}, crash{numbers(0, i), i - 1}, crash{numbers(i, n), i})
	}
	for range n {
		ways = append(ways, someCrash(r, n))
	}
	return ways
}

// someCrash is any way.
func someCrash(r *rand.Rand, n int) crash {
	c := crash{torn: r.IntN(n+2) - 1}
	for i := range n {
		if r.IntN(2) == 0 {
			c.keep = append(c.keep, i)
		}
	}
	return c
}

func numbers(from, to int) (l []int) {
	for i := from; i < to; i++ {
		l = append(l, i)
	}
	return l
}

// eachStep does a thing on disks made anew that stop at a step, at each one in turn till it has no error, and crash in each way; then look sees what is there.
func eachStep(t *testing.T, lay func() *block.Disk, do func(*block.Disk) error, look func(d *block.Disk, err error)) {
	t.Helper()
	for at, done := 0, false; !done; at++ {
		for _, c := range crashes(at) {
			d := lay()
			d.Fail(d.Steps() + at)
			err := do(d)
			done = err == nil
			if !done {
				told(t, "what is under way", err, api.ErrState)
			}
			d.Crash(c.keep, c.torn)
			look(d, err)
			if t.Failed() {
				t.Fatalf("behind %d steps and Crash(%v, %d)", at, c.keep, c.torn)
			}
		}
	}
}

// TestS3FirstFormat: there is no Store, or one with nothing in it, which goes on.
func TestS3FirstFormat(t *testing.T) {
	formatted := 0
	eachStep(t, func() *block.Disk { return disk(t, 90) }, store.Format, func(d *block.Disk, err error) {
		if _, bad := store.Open(d); bad == nil {
			finds(t, d, state{})
			formatted++
		} else {
			isNone(t, d, api.ErrFile)
			if err == nil {
				t.Error("a Format without an error is lost")
			}
			format(t, d)
		}
		var now state
		s := open(t, d)
		put(t, s, &now, 0, "goes on")
		commit(t, s, &now)
		d.Crash(nil, 0)
		finds(t, d, now)
	})
	if formatted == 0 {
		t.Error("never formatted")
	}
}

// TestS3NextFormat: the Store is as it was, or has nothing in it.
func TestS3NextFormat(t *testing.T) {
	_, was := laid(t)
	lay := func() *block.Disk {
		d, _ := laid(t)
		return d
	}
	eachStep(t, lay, store.Format, func(d *block.Disk, err error) {
		now := either(t, d, was, state{})
		if err == nil && now != (state{}) {
			t.Error("a Format without an error is lost")
		}
		goesOn(t, d, now)
	})
}

// goesOn fails the test where a Store is not one as any other: Commits are done for good.
func goesOn(t *testing.T, d *block.Disk, now state) {
	t.Helper()
	s := open(t, d)
	for n := range 3 {
		for p := n; p < api.MaxPages; p += 13 {
			put(t, s, &now, p, fmt.Sprint("goes on ", n))
		}
		commit(t, s, &now)
		d.Crash([]int{0, 1, 2}, n)
		finds(t, d, now)
	}
}

// change puts pages of a Store, so many from one on, and commits; it tells what the Store would have then.
func change(t *testing.T, d *block.Disk, from, many int, text string) (state, error) {
	t.Helper()
	s := open(t, d)
	now := seen(t, s)
	for p := from; p < from+many; p++ {
		put(t, s, &now, p%api.MaxPages, fmt.Sprint(text, p))
	}
	now.version++
	return now, s.Commit()
}

// TestS3Commit: none of it is done, or all.
func TestS3Commit(t *testing.T) {
	for _, many := range []int{0, 1, 2, 5, api.MaxPages} {
		_, was := laid(t)
		lay := func() *block.Disk {
			d, _ := laid(t)
			return d
		}
		var now state
		none, all := 0, 0
		do := func(d *block.Disk) (err error) {
			now, err = change(t, d, 0, many, "under way ")
			return err
		}
		eachStep(t, lay, do, func(d *block.Disk, err error) {
			got := either(t, d, was, now)
			if err == nil && got != now {
				t.Error("a Commit without an error is lost")
			}
			if got == was {
				none++
			} else {
				all++
			}
			goesOn(t, d, got)
		})
		if none == 0 || all == 0 {
			t.Errorf("%d pages: %d times none, %d times all", many, none, all)
		}
	}
}

// TestS3Again: a second Crash, while the next Commit is under way; with and without other pages in it.
func TestS3Again(t *testing.T) {
	r := rand.New(rand.NewPCG(7, 3))
	var torn, lost, done int
	for range 10000 {
		d, now := laid(t)
		from, many := r.IntN(api.MaxPages), r.IntN(4)
		told := fmt.Sprintf("%d pages from %d on", many, from)
		for n := range 2 + r.IntN(3) {
			at := r.IntN(many + 6)
			d.Fail(at + d.Steps())
			next, err := change(t, d, from+n%2, many, fmt.Sprint("under way ", n, " "))
			c := someCrash(r, many+1)
			d.Crash(c.keep, c.torn)
			got := either(t, d, now, next)
			if err == nil && got != next {
				t.Error("a Commit without an error is lost")
			}
			told += fmt.Sprintf("; %d steps, Crash(%v, %d)", at, c.keep, c.torn)
			if t.Failed() {
				t.Fatal(told)
			}
			if c.torn >= 0 && err != nil {
				torn++
			}
			if got == now {
				lost++
			} else {
				done++
			}
			now = got
		}
		goesOn(t, d, now)
		if t.Failed() {
			t.Fatal(told)
		}
	}
	if torn < 1000 || lost < 1000 || done < 1000 {
		t.Errorf("only %d torn, %d lost, %d done", torn, lost, done)
	}
}

// TestS3NoCrash: the disk stops, goes on without a Crash, and stops again: what Open told of may be lost then, but never a part of it.
func TestS3NoCrash(t *testing.T) {
	for first := range 8 {
		for second := range 9 {
			for _, c := range crashes(8) {
				d, was := laid(t)
				d.Fail(first + d.Steps())
				one, bad := change(t, d, 0, 2, "one ")
				d.Fail(-1)
				then := either(t, d, was, one)
				d.Fail(second + d.Steps())
				two, err := change(t, d, 0, 2, "two ")
				if two.version != then.version+1 {
					t.Errorf("Version %d behind %d", two.version, then.version)
				}
				d.Crash(c.keep, c.torn)
				got := either(t, d, was, one, two)
				if err == nil && got != two || bad == nil && got == was {
					t.Error("a Commit without an error is lost")
				}
				goesOn(t, d, got)
				if t.Failed() {
					t.Fatalf("behind %d and %d steps and Crash(%v, %d)", first, second, c.keep, c.torn)
				}
			}
		}
	}
}

// TestS3FormatNoCrash: as TestS3NoCrash, with a Format as the first or the second one.
func TestS3FormatNoCrash(t *testing.T) {
	for first := range 7 {
		for second := range 8 {
			for _, c := range crashes(6) {
				for order := range 3 {
					d, was := laid(t)
					wants := []state{was, {}}
					do := func(n int) {
						if order == n || order == 2 {
							store.Format(d)
						} else {
							next, _ := change(t, d, 0, 2, "next ")
							wants = append(wants, next)
						}
					}
					d.Fail(first + d.Steps())
					do(0)
					d.Fail(second + d.Steps())
					do(1)
					d.Crash(c.keep, c.torn)
					goesOn(t, d, either(t, d, wants...))
					if t.Failed() {
						t.Fatalf("behind %d and %d steps and Crash(%v, %d), %d", first, second, c.keep, c.torn, order)
					}
				}
			}
		}
	}
}
