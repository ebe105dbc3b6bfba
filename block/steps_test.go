package block_test

import (
	"fmt"
	"math/rand/v2"
	"slices"
	"strings"
	"testing"

	"quarterday/api"
	"quarterday/block"
)

// steps fails the test where so many were not done.
func steps(t *testing.T, d *block.Disk, want int) {
	t.Helper()
	if d.Steps() != want {
		t.Errorf("%d steps, want %d", d.Steps(), want)
	}
}

func TestB3Steps(t *testing.T) {
	d := disk(t, 2)
	steps(t, d, 0)
	writes(t, d, "0a")
	steps(t, d, 1)
	flush(t, d)
	flush(t, d)
	steps(t, d, 3)
	told(t, "Write", d.Write(2, nil), api.ErrRange)
	told(t, "Write", d.Write(-1, nil), api.ErrRange)
	told(t, "Write", d.Write(0, make([]byte, 65)), api.ErrFull)
	has(t, d, "a") // Read is no step, nor are the others
	d.Fail(3)
	steps(t, d, 3)
	told(t, "Write", d.Write(0, nil), api.ErrState)
	told(t, "Flush", d.Flush(), api.ErrState)
	steps(t, d, 3)
	d.Fail(-1)
	writes(t, d, "0a", "0a")
	steps(t, d, 5)
	d.Crash([]int{0, 1}, -1)
	steps(t, d, 0)
	d.Crash(nil, 0)
	steps(t, d, 0)
	writes(t, d, "1b")
	flush(t, d)
	steps(t, d, 2)
	d.Crash(nil, 0)
	steps(t, d, 0)
}

// fails fails the test where a Write or a Flush does something.
func fails(t *testing.T, d *block.Disk, texts ...string) {
	t.Helper()
	was := d.Steps()
	for range 3 {
		told(t, "Write", d.Write(0, []byte("no")), api.ErrState)
		told(t, "Flush", d.Flush(), api.ErrState)
		told(t, "Write", d.Write(1, nil), api.ErrState)
	}
	has(t, d, texts...)
	steps(t, d, was)
}

func TestB3Fail(t *testing.T) {
	for at := range 6 { // counted from New
		d := disk(t, 3)
		d.Fail(at)
		want := []string{"", "", ""}
		for n := range at {
			if n%2 == 1 {
				flush(t, d)
				continue
			}
			writes(t, d, fmt.Sprint(n/2, "w"))
			want[n/2] = "w"
		}
		steps(t, d, at)
		fails(t, d, want...)
		d.Crash(nil, -1)
		if at%2 == 1 { // the last one was a Write, which no Flush followed
			want[at/2] = ""
		}
		has(t, d, want...)
	}
}

// TestB3FailAgain: what is done already counts, and the last Fail holds.
func TestB3FailAgain(t *testing.T) {
	for _, at := range []int{0, 1, 2, 3} {
		d := disk(t, 2)
		writes(t, d, "0a", "1b")
		flush(t, d)
		d.Fail(at)
		fails(t, d, "a", "b")
		for _, never := range []int{-1, -2, least} {
			d.Fail(at)
			d.Fail(never)
			writes(t, d, "0c")
		}
		d.Fail(at)
		fails(t, d, "c", "b")
		d.Fail(7) // six are done
		writes(t, d, "1d")
		fails(t, d, "c", "d")
		d.Fail(most)
		writes(t, d, "1e")
		flush(t, d)
		has(t, d, "c", "e")
		d.Fail(10)
		flush(t, d)
		d.Fail(-7)
		d.Fail(10)
		fails(t, d, "c", "e")
	}
}

// TestB3ErrorsDoNotCount: a Write with an error is none of the so many.
func TestB3ErrorsDoNotCount(t *testing.T) {
	d := disk(t, 2)
	d.Fail(2)
	for range 3 {
		told(t, "Write", d.Write(2, nil), api.ErrRange)
		told(t, "Write", d.Write(1, make([]byte, 65)), api.ErrFull)
	}
	writes(t, d, "0a")
	told(t, "Write", d.Write(-1, nil), api.ErrRange)
	flush(t, d)
	fails(t, d, "a")
}

// TestB3TillCrash: a Crash ends it, whether so many were done or not, and what was done is kept or not as ever.
func TestB3TillCrash(t *testing.T) {
	for _, at := range []int{-1, 0, 1, 2, 3, 4, 9} {
		d := disk(t, 2)
		writes(t, d, "0a", "1b")
		d.Fail(at)
		if at >= 0 && at <= 2 {
			fails(t, d, "a", "b")
		}
		d.Crash([]int{1}, -1)
		has(t, d, "", "b")
		for range 12 {
			writes(t, d, "0c")
			flush(t, d)
		}
		steps(t, d, 24)
		d.Fail(25) // counted from the Crash
		writes(t, d, "1d")
		fails(t, d, "c", "d")
		d.Crash([]int{0}, 0)
		has(t, d, "c", torn)
		d.Fail(0)
		fails(t, d, "c", torn)
	}
}

// slow is a disk that has what is safe, and reads it with all that was written since.
type slow struct {
	safe        []string
	since       []written
	steps, fail int
}

type written struct {
	block int
	text  string
}

// read is a block's bytes, or torn.
func (s *slow) read(i int) string {
	text := s.safe[i]
	for _, w := range s.since {
		if w.block == i {
			text = w.text
		}
	}
	return text
}

// settle makes safe what was written.
func (s *slow) settle() {
	for i := range s.safe {
		s.safe[i] = s.read(i)
	}
	s.since = nil
}

// step counts one that has no error of its own.
func (s *slow) step(own api.Errno) api.Errno {
	if s.fail >= 0 && s.steps >= s.fail {
		return api.ErrState
	}
	if own == api.OK {
		s.steps++
	}
	return own
}

func (s *slow) write(i int, b []byte) api.Errno {
	own := api.OK
	if i < 0 || i >= len(s.safe) {
		own = api.ErrRange
	} else if len(b) > 64 {
		own = api.ErrFull
	}
	e := s.step(own)
	if e == api.OK {
		s.since = append(s.since, written{i, string(b)})
	}
	return e
}

func (s *slow) flush() api.Errno {
	e := s.step(api.OK)
	if e == api.OK {
		s.settle()
	}
	return e
}

func (s *slow) crash(keep []int, tear int) {
	var kept []written
	for n, w := range s.since {
		if n == tear {
			w.text = torn
		}
		if slices.Contains(keep, n) {
			kept = append(kept, w)
		}
	}
	s.since = kept
	s.settle()
	s.steps, s.fail = 0, -1
}

// someKeep is numbers of Writes, mostly.
func someKeep(r *rand.Rand, n int) (keep []int) {
	for range r.IntN(2*n + 3) {
		keep = append(keep, r.IntN(n+3)-1)
	}
	return keep
}

// TestB3AsSlow: any calls, one behind the other, against the slow disk.
func TestB3AsSlow(t *testing.T) {
	r := rand.New(rand.NewPCG(6, 3))
	tornOnes, failed := 0, 0
	for range 400 {
		blocks := 1 + r.IntN(5)
		d, s := disk(t, blocks), &slow{safe: make([]string, blocks), fail: -1}
		var calls []string
		for range 60 {
			var call string
			var got error
			want := api.OK
			switch x := r.IntN(20); {
			case x < 12:
				i, b := r.IntN(blocks+2)-1, []byte(strings.Repeat(string(rune('a'+r.IntN(26))), r.IntN(r.IntN(2)*60+8)))
				call, got, want = fmt.Sprintf("Write(%d, %q)", i, b), d.Write(i, b), s.write(i, b)
			case x < 15:
				call, got, want = "Flush", d.Flush(), s.flush()
			case x < 18:
				keep := someKeep(r, len(s.since))
				tear := r.IntN(len(s.since)+3) - 1
				call = fmt.Sprintf("Crash(%v, %d)", keep, tear)
				d.Crash(keep, tear)
				s.crash(keep, tear)
			default:
				at := s.steps + r.IntN(8) - 3
				call = fmt.Sprintf("Fail(%d)", at)
				d.Fail(at)
				s.fail = at
			}
			calls = append(calls, call)
			told(t, call, got, want)
			texts := make([]string, blocks)
			for i := range texts {
				texts[i] = s.read(i)
				if texts[i] == torn {
					tornOnes++
				}
			}
			if want == api.ErrState {
				failed++
			}
			has(t, d, texts...)
			steps(t, d, s.steps)
			if t.Failed() {
				t.Fatalf("behind %s", strings.Join(calls, ", "))
			}
		}
	}
	if tornOnes < 1000 || failed < 1000 {
		t.Errorf("%d torn ones, %d failed ones only", tornOnes, failed)
	}
}
