package keep_test

import (
	"fmt"
	"math/rand/v2"
	"slices"
	"testing"

	"quarterday/api"
	"quarterday/block"
	"quarterday/keep"
	"quarterday/plain"
)

// eachStep does a thing on disks made anew that stop at a step, at each one in turn till it has no error (of very many at some and at the last ones), and crash in each way; then look sees what is there.
func eachStep(t *testing.T, lay func() *block.Disk, do func(d *block.Disk) error, look func(d *block.Disk, err error)) {
	t.Helper()
	d := lay()
	before := d.Steps()
	told(t, "what stops nowhere", do(d), api.OK)
	last := d.Steps() - before
	for at := range last + 1 {
		if at > 20 && at < last-10 && at%12 > 0 {
			continue
		}
		for _, c := range crashes(at) {
			d := lay()
			d.Fail(before + at)
			err := do(d)
			told(t, "what is under way", err, map[bool]api.Errno{true: api.OK, false: api.ErrState}[at == last])
			d.Crash(c.keep, c.torn)
			look(d, err)
			if t.Failed() {
				t.Fatalf("behind %d steps and Crash(%v, %d)", at, c.keep, c.torn)
			}
		}
	}
}

// TestK2FirstFormat: nothing was formatted, or nothing is kept; in either case it goes on.
func TestK2FirstFormat(t *testing.T) {
	for way := range 6 {
		formatted, not := 0, 0
		eachStep(t, func() *block.Disk { return other(t, way) }, keep.Format, func(d *block.Disk, err error) {
			if l, bad := keep.Load(d); bad == nil {
				formatted++
				if len(l) > 0 {
					t.Errorf("Load has %s", unlike(l, nil))
				}
			} else {
				not++
				isNone(t, d)
				if err == nil {
					t.Error("a Format without an error is lost")
				}
				format(t, d)
			}
			goesOn(t, d, nil)
		})
		if formatted == 0 || not == 0 {
			t.Errorf("formatted %d times, not %d times", formatted, not)
		}
	}
}

// TestK2NextFormat: what was kept is there as a whole, or nothing is kept.
func TestK2NextFormat(t *testing.T) {
	was := some(8)
	stayed, gone := 0, 0
	eachStep(t, func() *block.Disk { return laid(t, was...) }, keep.Format, func(d *block.Disk, err error) {
		l := loaded(t, d)
		switch {
		case len(l) == 0:
			gone++
		case equal(l, was) && err != nil:
			stayed++
		default:
			t.Errorf("behind a Format (%v) Load has %s", err, unlike(l, was))
		}
		goesOn(t, d, l)
	})
	if stayed == 0 || gone == 0 {
		t.Errorf("stayed %d times, gone %d times", stayed, gone)
	}
}

// TestK2Save: a beginning of what was given to it, and no less than was saved ahead of it; and all, where it had no error.
func TestK2Save(t *testing.T) {
	for _, was := range [][]api.Entry{nil, some(1), some(9)} {
		for _, more := range [][]api.Entry{nil, list(1, 20), list(1, 200), list(4, 50), list(3, 58), list(6, 4), {sized(100, 1), sized(7, 2), sized(150, 3)}} {
			l := all(was, more)
			lost, kept := 0, 0
			eachStep(t, func() *block.Disk { return laid(t, was...) }, func(d *block.Disk) error { return keep.Save(d, l) }, func(d *block.Disk, err error) {
				got := loaded(t, d)
				if !begins(l, got) || !begins(got, was) || err == nil && len(got) < len(l) {
					t.Errorf("Load has others behind a Save of %d more (%v): %s", len(more), err, unlike(got, l))
				}
				if len(got) == len(l) {
					kept++
				} else {
					lost++
				}
				save(t, d, l)
				d.Crash(nil, 0)
				goesOn(t, d, l)
			})
			if kept == 0 || len(more) > 0 && lost == 0 {
				t.Errorf("%d times kept, %d times lost", kept, lost)
			}
		}
	}
}

// TestK2Between: behind a Save nothing is lost, whatever the disk does then, be it in a call that has an error of its own.
func TestK2Between(t *testing.T) {
	l := some(7)
	for _, c := range crashes(20) {
		d := disk(t, fewest)
		format(t, d)
		save(t, d, l)
		refuses(t, d, all(l, list(1, 201)), api.ErrFull)
		refuses(t, d, l[:3], api.ErrOrder)
		d.Crash(c.keep, c.torn)
		has(t, d, l...)
		d.Crash(c.keep, c.torn)
		goesOn(t, d, l)
	}
}

// TestK2NoCrash: a Save that stopped, and another one behind it without a Crash between, that stops too, and a Crash then.
func TestK2NoCrash(t *testing.T) {
	r := rand.New(rand.NewPCG(16, 3))
	was := some(3)
	for round := range 4000 {
		d := laid(t, was...)
		var given []api.Entry
		safe := len(was)
		log := ""
		for n := range 2 + r.IntN(3) {
			now := loaded(t, d)
			given = all(now, list(1+r.IntN(4), 4+r.IntN(150)))
			at := r.IntN(9)
			d.Fail(d.Steps() + at)
			err := keep.Save(d, given)
			log += fmt.Sprintf("; %d more, %d steps: %v", len(given)-len(now), at, err)
			if err == nil {
				safe = len(given)
			}
			d.Fail(-1)
			if now = loaded(t, d); !begins(given, now) || len(now) < safe {
				t.Errorf("Load %d has others: %s", n, unlike(now, given))
			}
		}
		c := someCrash(r, 12)
		d.Crash(c.keep, c.torn)
		now := loaded(t, d)
		if !begins(given, now) || len(now) < safe {
			t.Errorf("Load has others: %s", unlike(now, given))
		}
		save(t, d, given)
		d.Crash(nil, 0)
		has(t, d, given...)
		if t.Failed() {
			t.Fatalf("round %d%s, Crash(%v, %d)", round, log, c.keep, c.torn)
		}
	}
}

// TestK2Again: crash behind crash, each in a Save of what was found and more; then it is all there, and the room is.
func TestK2Again(t *testing.T) {
	r := rand.New(rand.NewPCG(16, 4))
	lost, kept := 0, 0
	for round := range 1500 {
		d := laid(t)
		var now []api.Entry
		log := ""
		for n := range 3 + r.IntN(8) {
			given := all(now, list(1+r.IntN(6), 4+r.IntN([]int{30, 80, 197}[r.IntN(3)])))
			if room(given) > 6000 {
				break
			}
			at := r.IntN(14)
			d.Fail(at)
			err := keep.Save(d, given)
			c := someCrash(r, 14)
			d.Crash(c.keep, c.torn)
			got := loaded(t, d)
			log += fmt.Sprintf("; %d behind %d, %d steps (%v), Crash(%v, %d): %d", len(given)-len(now), len(now), at, err, c.keep, c.torn, len(got))
			if !begins(given, got) || !begins(got, now) || err == nil && len(got) < len(given) {
				t.Errorf("Load %d has others: %s", n, unlike(got, given))
			}
			if len(got) < len(given) {
				lost++
			} else if err != nil {
				kept++
			}
			if t.Failed() {
				t.Fatal(round, log)
			}
			now = got
			if r.IntN(4) == 0 { // what is found is safe, and saved again it is no other
				save(t, d, now)
				d.Crash(nil, 0)
				has(t, d, now...)
			}
		}
		full := all(now, needing(100, 6000-room(now)-6), list(1, 4))
		save(t, d, full)
		d.Crash(nil, 0)
		has(t, d, full...)
		if t.Failed() {
			t.Fatal(round, log)
		}
	}
	if lost < 1000 || kept < 100 {
		t.Errorf("%d times lost, %d times kept", lost, kept)
	}
}

// TestK2Often: as often as a log may be opened, with entries lost again and again.
func TestK2Often(t *testing.T) {
	d := laid(t)
	l := some(2)
	save(t, d, l)
	for n := range 20_000 {
		got, err := keep.Load(d)
		if err != nil || len(got) != 2 {
			t.Fatalf("%d times: %v, %v", n, got, err)
		}
		d.Fail(4)
		if err := keep.Save(d, all(l, list(5, 150))); plain.Told(err) != api.ErrState {
			t.Fatalf("%d times: Save = %v", n, err)
		}
		d.Crash([]int{1, 2}, -1) // the first piece of it is lost
	}
	has(t, d, l...)
	goesOn(t, d, slices.Clone(l))
}
