package log_test

import (
	"fmt"
	"math/rand/v2"
	"slices"
	"testing"

	"quarterday/api"
	"quarterday/log"
)

// crash is how a disk crashes.
type crash struct {
	keep []int
	torn int
}

// crashes are many ways to crash behind at most n Writes: with none, one, all but one, the first ones, the last ones, all, some of them kept; and with each torn.
func crashes(n int) []crash {
	r := rand.New(rand.NewPCG(8, uint64(n)))
	all := numbers(0, n)
	ways := []crash{{nil, -1}, {nil, 0}, {all, -1}}
	for i := range n {
		others := append(numbers(0, i), numbers(i+1, n)...)
		ways = append(ways, crash{all, i}, crash{[]int{i}, -1}, crash{[]int{i}, i}, crash{others, -1}, crash{numbers(0, i), i - 1}, crash{numbers(i, n), i})
	}
	for range n {
		ways = append(ways, someCrash(r, n))
	}
	return ways
}

// someCrash is any way.
func someCrash(r *rand.Rand, n int) crash {
	c := crash{torn: r.IntN(n+2) - 1}
	odds := 1 + r.IntN(4)
	for i := range n {
		if r.IntN(5) < odds {
			c.keep = append(c.keep, i)
		}
	}
	return c
}

func numbers(from, to int) (l []int) {
	for i := from; i < to; i++ {
		l = append(l, i)
	}
	return l
}

// eachStep does a thing on disks made anew that stop at a step, at each one in turn till it has no error, and crash in each way; then look sees what is there.
func eachStep(t *testing.T, lay func() place, do func(place) error, look func(p place, err error)) {
	t.Helper()
	for at, done := 0, false; !done; at++ {
		for _, c := range crashes(at) {
			p := lay()
			p.d.Fail(p.d.Steps() + at)
			err := do(p)
			done = err == nil
			if !done {
				told(t, "what is under way", err, api.ErrState)
			}
			p.d.Crash(c.keep, c.torn)
			look(p, err)
			if t.Failed() {
				t.Fatalf("behind %d steps and Crash(%v, %d)", at, c.keep, c.torn)
			}
		}
	}
}

// laid is a log that has records, of several sittings, some of whose blocks were lost; all is safe.
func laid(t *testing.T) (place, []string) {
	t.Helper()
	p := place{disk(t, 15), 2, 12}
	var list []string
	for n, bytes := range []int{20, 90, 7, 45, 60} {
		l := p.open(t)
		if n == 0 {
			l = p.format(t)
		}
		add(t, l, &list, text(bytes, n))
		sync(t, l)
		lost := slices.Clone(list)
		add(t, l, &lost, text(150, 100+n))
		p.d.Crash([]int{1, 2}, -1)
		p.finds(t, list)
	}
	return p, list
}

// TestL2FirstFormat: it is empty, and goes on.
func TestL2FirstFormat(t *testing.T) {
	for way := range 2 {
		lay := func() place {
			p := place{disk(t, 8), 1, 6}
			for i := range 8 * way { // blocks that look like those of a log
				told(t, "Write", p.d.Write(i, []byte{byte(max(0, i-2)), 0, 1, 128 + 60, 0, 9, 'n', 'o', 'r', 'e', 'c', 'o', 'r', 'd', 's', 0}), api.OK)
			}
			told(t, "Flush", p.d.Flush(), api.OK)
			return p
		}
		eachStep(t, lay, func(p place) error { return log.Format(p.d, p.from, p.many) }, func(p place, err error) {
			p.finds(t, nil)
			p.goesOn(t, nil)
		})
	}
}

// TestL2NextFormat: the log is as it was, or empty.
func TestL2NextFormat(t *testing.T) {
	_, was := laid(t)
	lay := func() place {
		p, _ := laid(t)
		return p
	}
	stayed, gone := 0, 0
	eachStep(t, lay, func(p place) error { return log.Format(p.d, p.from, p.many) }, func(p place, err error) {
		if got := seen(p.open(t)); len(got) == 0 {
			gone++
			p.goesOn(t, nil)
		} else {
			stayed++
			p.goesOn(t, was)
			if err == nil {
				t.Error("a Format without an error is lost")
			}
		}
	})
	if stayed == 0 || gone == 0 {
		t.Errorf("stayed %d times, gone %d times", stayed, gone)
	}
}

// under is what was Synced, and Appended behind it.
type under struct {
	safe, more []string
}

// allows fails the test where a list is not all that was Synced and a beginning of what was Appended behind it.
func (u under) allows(t *testing.T, got []string) {
	t.Helper()
	all := append(slices.Clone(u.safe), u.more...)
	if len(got) < len(u.safe) || !begins(all, got) {
		t.Errorf("Open finds %q, want %q and a beginning of %q", got, u.safe, u.more)
	}
}

// goOn opens a log, appends records of such lengths, and syncs behind those that are told so, till the disk has an error.
func (p place) goOn(t *testing.T, lengths []int, syncs func(n int) bool, unlike int) (u under, err error) {
	t.Helper()
	l := p.open(t)
	u.safe = seen(l)
	for n, bytes := range lengths {
		record := text(bytes, unlike+n)
		if _, err := l.Append([]byte(record)); err != nil {
			return u, err
		}
		u.more = append(u.more, record)
		if !syncs(n) {
			continue
		}
		if err := l.Sync(); err != nil {
			return u, err
		}
		u.safe, u.more = append(u.safe, u.more...), nil
	}
	return u, nil
}

// TestL2Stops: wherever the disk stops, in an Append or in a Sync, of a new log, an old one and one that never had a Format.
func TestL2Stops(t *testing.T) {
	lays := []func() place{
		func() place {
			p, _ := laid(t)
			return p
		},
		func() place { return whole(t, 12) },
		func() place {
			p := whole(t, 12)
			p.format(t)
			return p
		},
	}
	kinds := []struct {
		lengths []int
		syncs   func(n int) bool
	}{
		{[]int{5}, func(int) bool { return true }},
		{[]int{10, 10, 10, 10}, func(n int) bool { return n%2 == 1 }},
		{[]int{130, 60, 58}, func(n int) bool { return true }},
		{[]int{200, 20}, func(n int) bool { return n == 1 }},
		{[]int{38, 58, 58}, func(n int) bool { return n != 1 }},
		{[]int{20, 30, 60, 1, 90}, func(n int) bool { return n == 1 }},
	}
	for _, lay := range lays {
		for _, kind := range kinds {
			var u under
			lost, kept := 0, 0
			do := func(p place) (err error) {
				u, err = p.goOn(t, kind.lengths, kind.syncs, 500)
				return err
			}
			eachStep(t, lay, do, func(p place, err error) {
				got := seen(p.open(t))
				u.allows(t, got)
				if len(got) < len(u.safe)+len(u.more) {
					lost++
				} else if len(u.more) > 0 {
					kept++
				}
				p.goesOn(t, got)
			})
			if lost == 0 || kept == 0 {
				t.Errorf("%v: %d times lost, %d times kept", kind.lengths, lost, kept)
			}
		}
	}
}

// TestL2Again: stop behind stop, each while the log goes on behind what Open found; then all of the room is there.
func TestL2Again(t *testing.T) {
	r := rand.New(rand.NewPCG(8, 4))
	lost, kept := 0, 0
	for round := range 6000 {
		p := place{disk(t, 16), r.IntN(4), 8 + r.IntN(5)}
		if round%3 > 0 {
			p.format(t)
		}
		var now []string
		told := fmt.Sprint(p.from, " ", p.many)
		for n := range 2 + r.IntN(12) {
			var lengths []int
			for room := p.room(now); len(lengths) < 5; {
				bytes := 1 + r.IntN([]int{20, 70, 200}[r.IntN(3)])
				if room -= bytes + 2; room < 0 {
					break
				}
				lengths = append(lengths, bytes)
			}
			every := 1 + r.IntN(4)
			at := r.IntN(18)
			p.d.Fail(at + p.d.Steps())
			u, err := p.goOn(t, lengths, func(n int) bool { return n%every == every-1 }, 10*n)
			c := someCrash(r, 12)
			p.d.Crash(c.keep, c.torn)
			now = seen(p.open(t))
			u.allows(t, now)
			told += fmt.Sprintf("; %v, Sync each %d, %d steps (%v), Crash(%v, %d): %d", lengths, every, at, err, c.keep, c.torn, len(now))
			if t.Failed() {
				t.Fatal(told)
			}
			if len(now) < len(u.safe)+len(u.more) {
				lost++
			} else if len(u.more) > 0 {
				kept++
			}
		}
		p.goesOn(t, now)
		if t.Failed() {
			t.Fatal(told)
		}
	}
	if lost < 3000 || kept < 3000 {
		t.Errorf("only %d lost, %d kept", lost, kept)
	}
}

// TestL2NoCrash: the disk stops, goes on without a Crash, and stops again: what was Synced stays, and what a Log was Appended stands behind what it found.
func TestL2NoCrash(t *testing.T) {
	never := func(int) bool { return false }
	for first := range 9 {
		for second := range 12 {
			for _, c := range crashes(8) {
				p, was := laid(t)
				p.d.Fail(first + p.d.Steps())
				one, _ := p.goOn(t, []int{20, 100, 70}, never, 500)
				p.d.Fail(-1)
				found := seen(p.open(t))
				one.allows(t, found)
				p.d.Fail(second + p.d.Steps())
				two, _ := p.goOn(t, []int{15, 90, 110, 40}, func(n int) bool { return n == 2 }, 600)
				p.d.Crash(c.keep, c.torn)
				got := seen(p.open(t))
				if len(two.more) == 0 && slices.Equal(two.safe, found) { // what the second one found is not safe yet
					two = under{was, found[len(was):]}
				}
				two.allows(t, got)
				p.goesOn(t, got)
				if t.Failed() {
					t.Fatalf("behind %d and %d steps and Crash(%v, %d)", first, second, c.keep, c.torn)
				}
			}
		}
	}
}

// TestL2FailedAppend: a record whose Append has an error is not there, whatever the disk keeps.
func TestL2FailedAppend(t *testing.T) {
	for _, bytes := range []int{1, 38, 39, 58, 100, 200} {
		for at := range 8 {
			for _, c := range crashes(6) {
				p, was := laid(t)
				l := p.open(t)
				p.d.Fail(p.d.Steps() + at)
				if _, err := l.Append([]byte(text(bytes, 1))); err == nil {
					continue
				}
				p.finds(t, was)
				p.d.Crash(c.keep, c.torn)
				p.finds(t, was)
				p.goesOn(t, was)
				if t.Failed() {
					t.Fatalf("%d bytes, behind %d steps and Crash(%v, %d)", bytes, at, c.keep, c.torn)
				}
			}
		}
	}
}

// TestL2TwoStop: where a disk stops under one log, the other one on it keeps what it had, too.
func TestL2TwoStop(t *testing.T) {
	r := rand.New(rand.NewPCG(8, 5))
	for range 1500 {
		d := disk(t, 24)
		a, b := place{d, 0, 11}, place{d, 12, 12}
		var ofA, ofB under
		la, lb := a.format(t), b.format(t)
		d.Fail(d.Steps() + r.IntN(40))
		for range 12 {
			l, u := la, &ofA
			if r.IntN(2) == 0 {
				l, u = lb, &ofB
			}
			record := text(1+r.IntN(min(90, max(1, l.Room()-2))), r.IntN(1000))
			if _, err := l.Append([]byte(record)); err == nil {
				u.more = append(u.more, record)
			}
			if r.IntN(3) == 0 && l.Sync() == nil {
				u.safe, u.more = append(u.safe, u.more...), nil
			}
		}
		c := someCrash(r, 12)
		d.Crash(c.keep, c.torn)
		gotA, gotB := seen(a.open(t)), seen(b.open(t))
		ofA.allows(t, gotA)
		ofB.allows(t, gotB)
		a.goesOn(t, gotA)
		b.goesOn(t, gotB)
		if t.Failed() {
			t.FailNow()
		}
	}
}
