package store_test

import (
	"fmt"
	"strings"
	"testing"

	"quarterday/api"
	"quarterday/block"
	"quarterday/plain"
	"quarterday/store"
)

func TestS2Commit(t *testing.T) {
	for _, many := range []int{0, 1, 2, 39, api.MaxPages} {
		var was state
		d := disk(t, 90)
		s := format(t, d)
		for round := range 5 {
			now := was
			for p := range many {
				put(t, s, &now, (p+round)%api.MaxPages, fmt.Sprint(strings.Repeat("x", 7*(round%3)), round, " ", p))
			}
			has(t, s, now, many)
			finds(t, d, was)
			commit(t, s, &now)
			has(t, s, now, 0)
			finds(t, d, now)
			d.Crash(nil, 0) // it is for good
			has(t, s, now, 0)
			finds(t, d, now)
			was = now
		}
	}
}

// TestS2Rollback: what is pending is as it was behind the last Commit, and nothing else is changed.
func TestS2Rollback(t *testing.T) {
	var was state
	d := disk(t, 90)
	s := format(t, d)
	rollback := func(want int) {
		t.Helper()
		if n := s.Rollback(); n != want {
			t.Errorf("Rollback = %d, want %d", n, want)
		}
		has(t, s, was, 0)
	}
	for round := range 4 {
		rollback(0)
		rollback(0)
		for _, many := range []int{1, 2, api.MaxPages} {
			now := was
			for p := range many {
				put(t, s, &now, p, "rolled")
				put(t, s, &now, p, "back")
			}
			has(t, s, now, many)
			rollback(many)
			rollback(0)
			finds(t, d, was)
		}
		put(t, s, &was, 3, fmt.Sprint("kept ", round))
		put(t, s, &was, 3*round, "")
		commit(t, s, &was)
		rollback(0)
		finds(t, d, was)
	}
	was = seen(t, s)
	gone := was
	put(t, s, &gone, 0, "gone")
	s.Rollback()
	commit(t, s, &was) // of nothing
	has(t, s, was, 0)
	finds(t, d, was)
}

// TestS2Many: Commits one behind the other, of Stores that were opened anew at times.
func TestS2Many(t *testing.T) {
	var now state
	d := disk(t, 90)
	s := format(t, d)
	for n := range 1200 {
		if n%3 != 0 {
			put(t, s, &now, n%api.MaxPages, fmt.Sprint("n ", n))
		}
		if n%7 == 0 {
			put(t, s, &now, n*5%api.MaxPages, "")
		}
		commit(t, s, &now)
		has(t, s, now, 0)
		finds(t, d, now)
		if n%11 == 0 {
			d.Crash([]int{0}, 0)
			s = open(t, d)
		}
	}
	if now.version != 1200 {
		t.Errorf("Version %d", now.version)
	}
}

// TestS2Opens: what is pending is one Store's alone, and is gone with it.
func TestS2Opens(t *testing.T) {
	var was state
	d := disk(t, 90)
	s := format(t, d)
	put(t, s, &was, 1, "done")
	commit(t, s, &was)
	now := was
	put(t, s, &now, 1, "pending")
	put(t, s, &now, 2, "pending too")
	finds(t, d, was)
	has(t, s, now, 2)
	s = open(t, d)
	has(t, s, was, 0)
	commit(t, s, &was)
	has(t, s, was, 0)
}

// ofNoUse fails the test where a Store answers something behind a Commit with an error; its Version is the one of the last Commit without.
func ofNoUse(t *testing.T, s *store.Store, version int) {
	t.Helper()
	for range 2 {
		for _, p := range []int{-1, 0, 1, 39, 40, most, least} { // it is of no use at all: also where an argument is wrong
			told(t, "Put", s.Put(p, []byte("no")), api.ErrState)
			told(t, "Put of nothing", s.Put(p, nil), api.ErrState)
			told(t, "Put of too much", s.Put(p, make([]byte, 61)), api.ErrState)
			if b, err := s.Get(p); plain.Told(err) != api.ErrState || len(b) != 0 {
				t.Errorf("Get(%d) = %q, %v, want ErrState alone", p, b, err)
			}
		}
		if n := s.Pending(); n != 0 {
			t.Errorf("%d pending", n)
		}
		if n := s.Rollback(); n != 0 {
			t.Errorf("Rollback = %d", n)
		}
		if n := s.Version(); n != version {
			t.Errorf("Version = %d, want %d", n, version)
		}
		told(t, "Commit", s.Commit(), api.ErrState)
	}
}

// TestS2NoUse: behind a Commit with an error, whichever step it was, whatever the disk does then.
func TestS2NoUse(t *testing.T) {
	for _, many := range []int{0, 1, 2, api.MaxPages} {
		for at := 0; ; at++ {
			d, was := laid(t)
			s, now := open(t, d), was
			for p := range many {
				put(t, s, &now, p, "under way")
			}
			d.Fail(d.Steps() + at)
			now.version++
			err := s.Commit()
			if err == nil {
				if at < 2 {
					t.Errorf("a Commit of %d pages takes %d steps: it can not be safe", many, at)
				}
				has(t, s, now, 0)
				break
			}
			told(t, "Commit", err, api.ErrState)
			ofNoUse(t, s, was.version)
			either(t, d, was, now) // ahead of the Crash too
			steps := d.Steps()
			d.Fail(-1)
			ofNoUse(t, s, was.version)
			if d.Steps() != steps {
				t.Errorf("a Store of no use does %d steps", d.Steps()-steps)
			}
			d.Crash(nil, 0)
			ofNoUse(t, s, was.version)
			then := either(t, d, was, now)
			again := open(t, d)
			put(t, again, &then, 5, "again")
			commit(t, again, &then)
			has(t, again, then, 0)
			ofNoUse(t, s, was.version)
			finds(t, d, then)
		}
	}
}

// laid is a disk on which a Store has pages, some in their first place and some not, some empty; all is safe.
func laid(t *testing.T) (*block.Disk, state) {
	t.Helper()
	var now state
	d := disk(t, 90)
	s := format(t, d)
	for p := range api.MaxPages {
		if p%5 != 4 {
			put(t, s, &now, p, fmt.Sprint("first ", p))
		}
	}
	commit(t, s, &now)
	for p := 0; p < api.MaxPages; p += 3 {
		put(t, s, &now, p, fmt.Sprint("second ", p))
	}
	put(t, s, &now, 1, "")
	commit(t, s, &now)
	return d, now
}

// either fails the test where Open finds none of these; it tells what it finds.
func either(t *testing.T, d *block.Disk, wants ...state) state {
	t.Helper()
	s := open(t, d)
	got := seen(t, s)
	if s.Pending() != 0 {
		t.Errorf("%d pending behind Open", s.Pending())
	}
	for _, want := range wants {
		if got == want {
			return got
		}
	}
	t.Errorf("Open finds %v, want one of %v", got, wants)
	return got
}
