package store_test

import (
	"fmt"
	"math/rand/v2"
	"slices"
	"strings"
	"testing"

	"quarterday/api"
	"quarterday/block"
	"quarterday/plain"
	"quarterday/store"
)

// slow is a disk and its Store by what is promised of them alone.
type slow struct {
	may       []state // what Open may find; there is more than one behind an error of the disk
	formatted bool    // an Open without a Store is one that may not be
	now, done state   // with what is pending, and without
	pending   []int
	use       bool // the Store is of use
}

// player plays calls on a disk, its Store and the slow one.
type player struct {
	t     *testing.T
	r     *rand.Rand
	d     *block.Disk
	s     *store.Store // nil: none is open
	slow  slow
	calls []string
	lost  int // how many Commits with an error were not done
	kept  int // and how many were
}

// format is one that may fail.
func (p *player) format() {
	err := store.Format(p.d)
	p.say("Format", err)
	if err == nil {
		p.slow.may, p.slow.formatted = []state{{}}, true
	} else {
		p.slow.may = append(p.slow.may, state{})
	}
	p.s = nil // a Store is of the disk as it was
}

// open is one that must find what may be.
func (p *player) open() {
	s, err := store.Open(p.d)
	p.say("Open", err)
	if err != nil {
		if p.slow.formatted || plain.Told(err) != api.ErrFile {
			p.t.Errorf("Open: %v", err)
		}
		p.s = nil
		return
	}
	got := seen(p.t, s)
	if !slices.Contains(p.slow.may, got) {
		p.t.Errorf("Open finds %v, want one of %v", got, p.slow.may)
	}
	if len(p.slow.may) > 1 && got == p.slow.may[0] {
		p.lost++
	} else if len(p.slow.may) > 1 {
		p.kept++
	}
	p.s = s
	p.slow.now, p.slow.done, p.slow.pending, p.slow.use = got, got, nil, true
}

// crash is any one; Open finds then what it will find from then on.
func (p *player) crash() {
	c := someCrash(p.r, 6)
	p.d.Crash(c.keep, c.torn)
	p.say(fmt.Sprintf("Crash(%v, %d)", c.keep, c.torn), nil)
	p.open()
	if p.s == nil {
		p.slow.may = nil
	} else {
		p.slow.may, p.slow.formatted = []state{p.slow.now}, true
	}
}

// put is one of any page, with any bytes.
func (p *player) put() {
	page, text := p.r.IntN(8)-1, strings.Repeat(string(rune('a'+p.r.IntN(26))), p.r.IntN(64))
	if page == 6 {
		page = 39 + p.r.IntN(2)
	}
	err := p.s.Put(page, []byte(text))
	p.say(fmt.Sprintf("Put(%d, %q)", page, text), err)
	want := api.OK
	switch {
	case !p.slow.use:
		want = api.ErrState
	case page < 0 || page >= 40:
		want = api.ErrRange
	case len(text) > 60:
		want = api.ErrFull
	}
	told(p.t, "Put", err, want)
	if want != api.OK {
		return
	}
	p.slow.now.pages[page] = text
	if !slices.Contains(p.slow.pending, page) {
		p.slow.pending = append(p.slow.pending, page)
	}
}

// commit is one that may fail.
func (p *player) commit() {
	err := p.s.Commit()
	p.say("Commit", err)
	if !p.slow.use {
		told(p.t, "Commit", err, api.ErrState)
		return
	}
	p.slow.pending = nil
	p.slow.now.version++
	if err != nil {
		told(p.t, "Commit", err, api.ErrState)
		p.slow.may = append(p.slow.may, p.slow.now)
		p.slow.use = false
		return
	}
	p.slow.may = []state{p.slow.now}
	p.slow.formatted = true
	p.slow.done = p.slow.now
}

// rollback is one.
func (p *player) rollback() {
	n := p.s.Rollback()
	p.say("Rollback", nil)
	if n != len(p.slow.pending) {
		p.t.Errorf("Rollback = %d, want %d", n, len(p.slow.pending))
	}
	p.slow.now, p.slow.pending = p.slow.done, nil
}

// say notes a call.
func (p *player) say(call string, err error) {
	p.calls = append(p.calls, fmt.Sprint(call, ": ", plain.Told(err)))
}

// look fails the test where the open Store is not as the slow one.
func (p *player) look() {
	switch {
	case p.s == nil:
	case p.slow.use:
		has(p.t, p.s, p.slow.now, len(p.slow.pending))
	default:
		ofNoUse(p.t, p.s, p.slow.done.version)
	}
	if p.t.Failed() {
		p.t.Fatalf("behind %s", strings.Join(p.calls, ", "))
	}
}

// play plays one call.
func (p *player) play() {
	x := p.r.IntN(100)
	switch {
	case x < 2:
		p.format()
	case x < 10:
		p.crash()
	case x < 16:
		at := p.d.Steps() + p.r.IntN(12) - 2
		p.d.Fail(at)
		p.say(fmt.Sprintf("Fail(%d)", at), nil)
	case x < 19:
		p.d.Fail(-1)
		p.say("Fail(-1)", nil)
	case x < 24:
		p.open()
	case p.s == nil:
		p.format()
	case x < 70:
		p.put()
	case x < 92:
		p.commit()
	default:
		p.rollback()
	}
}

// TestS3AsSlow: any calls, one behind the other, against what is promised.
func TestS3AsSlow(t *testing.T) {
	r := rand.New(rand.NewPCG(7, 4))
	lost, kept := 0, 0
	for range 2000 {
		p := &player{t: t, r: r, d: disk(t, 90+r.IntN(3))}
		for range 60 {
			p.play()
			p.look()
		}
		lost, kept = lost+p.lost, kept+p.kept
	}
	if lost < 500 || kept < 200 {
		t.Errorf("only %d lost, %d kept", lost, kept)
	}
}
