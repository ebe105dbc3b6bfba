package log_test

import (
	"fmt"
	"math/rand/v2"
	"slices"
	"strings"
	"testing"

	"quarterday/api"
	"quarterday/log"
	"quarterday/plain"
)

// player plays calls on a log, and knows by what is promised alone what it may have.
type player struct {
	t     *testing.T
	r     *rand.Rand
	place place
	l     *log.Log
	now   []string // what the Log has
	lost  bool     // the Log is of no use
	may   []under  // what Open may find: there are two only behind a Format with an error
	calls []string
	found int // how often Open found less than was appended
}

// say notes a call.
func (p *player) say(call string, err error) {
	p.calls = append(p.calls, fmt.Sprint(call, ": ", plain.Told(err)))
}

// format is one that may fail: then the log is as it was, or empty.
func (p *player) format() {
	err := log.Format(p.place.d, p.place.from, p.place.many)
	p.say("Format", err)
	if err == nil {
		p.may = []under{{}}
	} else {
		p.may = append(p.may, under{})
	}
	p.open() // a Log is of the disk as it was
}

// open is one that must find what may be.
func (p *player) open() {
	p.l, p.lost = p.place.open(p.t), false
	p.now = seen(p.l)
	p.say(fmt.Sprintf("Open of %d", len(p.now)), nil)
	for _, u := range p.may {
		all := append(slices.Clone(u.safe), u.more...)
		if len(p.now) >= len(u.safe) && begins(all, p.now) {
			if len(p.now) < len(all) {
				p.found++
			}
			return
		}
	}
	p.t.Errorf("Open finds %q, want one of %q", p.now, p.may)
}

// settle lets Open find no other thing than what the Log has: all, or so many records and a beginning of the others.
func (p *player) settle(safe int) {
	p.may = []under{{slices.Clone(p.now[:safe]), slices.Clone(p.now[safe:])}}
}

// safe is how many records of the Log Open must find whatever happens.
func (p *player) safe() int {
	least := len(p.now)
	for _, u := range p.may {
		least = min(least, len(u.safe))
	}
	return least
}

// crash is any one; what Open finds then it will find from then on.
func (p *player) crash() {
	c := someCrash(p.r, 10)
	p.place.d.Crash(c.keep, c.torn)
	p.say(fmt.Sprintf("Crash(%v, %d)", c.keep, c.torn), nil)
	p.open()
	p.settle(len(p.now))
}

// append is one of any length.
func (p *player) append() {
	record := text(p.r.IntN([]int{4, 70, 204}[p.r.IntN(3)]), len(p.calls))
	n, err := p.l.Append([]byte(record))
	p.say(fmt.Sprintf("Append of %d", len(record)), err)
	got := plain.Told(err)
	var want api.Errno
	switch {
	case p.lost:
		want = api.ErrState
	case record == "":
		want = api.ErrShape
	case len(record) > 200 || len(record)+2 > p.place.room(p.now):
		want = api.ErrFull
	case got == api.ErrState: // the disk's
		want, p.lost = got, true
	}
	if got != want || got != api.OK && n != 0 || got == api.OK && n != len(p.now) {
		p.t.Errorf("Append = %d, %v, want %v", n, err, want)
	}
	if got != api.OK {
		return
	}
	safe := p.safe()
	p.now = append(p.now, record)
	p.settle(safe) // the record stands behind what the Log found
}

// sync is one that may fail.
func (p *player) sync() {
	err := p.l.Sync()
	p.say("Sync", err)
	if err != nil {
		told(p.t, "Sync", err, api.ErrState)
		p.lost = true
		return
	}
	if p.lost {
		p.t.Error("a Log of no use syncs")
	}
	p.settle(len(p.now))
}

// play plays one call.
func (p *player) play() {
	x := p.r.IntN(100)
	switch {
	case x < 1:
		p.format()
	case x < 10:
		p.crash()
	case x < 16:
		at := p.place.d.Steps() + p.r.IntN(14) - 1
		p.place.d.Fail(at)
		p.say(fmt.Sprintf("Fail(%d)", at), nil)
	case x < 20:
		p.place.d.Fail(-1)
		p.say("Fail(-1)", nil)
	case x < 27:
		p.open()
	case x < 85:
		p.append()
	default:
		p.sync()
	}
}

// look fails the test where the Log has other records.
func (p *player) look() {
	p.place.has(p.t, p.l, p.now)
	if p.t.Failed() {
		p.t.Fatalf("%d blocks, behind %s", p.place.many, strings.Join(p.calls, ", "))
	}
}

// TestL2AsSlow: any calls, one behind the other, against what is promised.
func TestL2AsSlow(t *testing.T) {
	r := rand.New(rand.NewPCG(8, 6))
	found := 0
	for range 4000 {
		p := &player{t: t, r: r, place: place{disk(t, 14), r.IntN(3), 3 + r.IntN(9)}, may: []under{{}}}
		p.open()
		for range 70 {
			p.play()
			p.look()
		}
		found += p.found
	}
	if found < 2000 {
		t.Errorf("only %d times less than was appended", found)
	}
}
