package store_test

import (
	"bytes"
	"fmt"
	"math"
	"math/rand/v2"
	"slices"
	"strings"
	"testing"

	"quarterday/api"
	"quarterday/block"
	"quarterday/plain"
	"quarterday/store"
)

const (
	most  = math.MaxInt
	least = math.MinInt
)

// state is what a Store has: its Version, and each page.
type state struct {
	version int
	pages   [api.MaxPages]string
}

// disk makes one.
func disk(t *testing.T, blocks int) *block.Disk {
	t.Helper()
	d, err := block.New(blocks)
	if err != nil {
		t.Fatal(err)
	}
	return d
}

// told fails the test where a call's error is another one.
func told(t *testing.T, call string, err error, want api.Errno) {
	t.Helper()
	if plain.Told(err) != want {
		t.Errorf("%s: %v, want %v", call, err, want)
	}
}

// open is an Open without an error.
func open(t *testing.T, d *block.Disk) *store.Store {
	t.Helper()
	s, err := store.Open(d)
	if err != nil || s == nil {
		t.Fatalf("Open = %v, %v", s, err)
	}
	return s
}

// format is a Format without an error, and the Store that there is then.
func format(t *testing.T, d *block.Disk) *store.Store {
	t.Helper()
	told(t, "Format", store.Format(d), api.OK)
	return open(t, d)
}

// put is a Put without an error, told to a state too.
func put(t *testing.T, s *store.Store, now *state, p int, text string) {
	t.Helper()
	told(t, fmt.Sprintf("Put(%d, %q)", p, text), s.Put(p, []byte(text)), api.OK)
	now.pages[p] = text
}

// commit is a Commit without an error, told to a state too.
func commit(t *testing.T, s *store.Store, now *state) {
	t.Helper()
	told(t, "Commit", s.Commit(), api.OK)
	now.version++
}

// seen is what a Store has by what it answers.
func seen(t *testing.T, s *store.Store) (now state) {
	t.Helper()
	now.version = s.Version()
	for p := range now.pages {
		b, err := s.Get(p)
		if err != nil {
			t.Errorf("Get(%d) = %q, %v", p, b, err)
		}
		now.pages[p] = string(b)
	}
	return now
}

// has fails the test where a Store has something else, or not so many pages are pending.
func has(t *testing.T, s *store.Store, want state, pending int) {
	t.Helper()
	if got := seen(t, s); got != want {
		t.Errorf("the Store has %v, want %v", got, want)
	}
	if n := s.Pending(); n != pending {
		t.Errorf("%d pending, want %d", n, pending)
	}
}

// finds fails the test where Open finds something else.
func finds(t *testing.T, d *block.Disk, want state) {
	t.Helper()
	has(t, open(t, d), want, 0)
}

// isNone fails the test where Open finds a Store, or answers another error.
func isNone(t *testing.T, d *block.Disk, want api.Errno) {
	t.Helper()
	if s, err := store.Open(d); plain.Told(err) != want || s != nil {
		t.Errorf("Open = %v, %v, want %v alone", s, err, want)
	}
}

// image is what all blocks of a disk have.
func image(t *testing.T, d *block.Disk) (all []string) {
	t.Helper()
	for i := range d.Blocks() {
		b, err := d.Read(i)
		all = append(all, fmt.Sprint(b, err))
	}
	return all
}

func TestS1Format(t *testing.T) {
	for _, n := range []int{90, 91, 99, 100, 150, 199, api.MaxBlocks} {
		d := disk(t, n)
		isNone(t, d, api.ErrFile)
		has(t, format(t, d), state{}, 0)
		d.Crash(nil, 0)
		finds(t, d, state{})
	}
	for _, n := range []int{1, 2, 3, 40, 80, 82, 88, 89} {
		d := disk(t, n)
		was := image(t, d)
		isNone(t, d, api.ErrFull)
		told(t, "Format", store.Format(d), api.ErrFull)
		d.Fail(0)
		told(t, "Format of one that fails", store.Format(d), api.ErrFull)
		isNone(t, d, api.ErrFull)
		if d.Steps() != 0 || !slices.Equal(image(t, d), was) {
			t.Errorf("Format of %d blocks does something", n)
		}
	}
}

// TestS1FewerBlocks: a disk with too few has no Store, though it has all that the beginning of a greater one has.
func TestS1FewerBlocks(t *testing.T) {
	var now state
	whole, fewer := disk(t, 90), disk(t, 89)
	s := format(t, whole)
	put(t, s, &now, 0, "a")
	commit(t, s, &now)
	for i := range 89 {
		b, _ := whole.Read(i)
		told(t, "Write", fewer.Write(i, b), api.OK)
	}
	told(t, "Flush", fewer.Flush(), api.OK)
	isNone(t, fewer, api.ErrFull)
	finds(t, whole, now)
}

func TestS1FormatFails(t *testing.T) {
	d := disk(t, 90)
	d.Fail(0)
	told(t, "Format", store.Format(d), api.ErrState)
	isNone(t, d, api.ErrFile)
	d.Crash(nil, 0)
	isNone(t, d, api.ErrFile)
	has(t, format(t, d), state{}, 0)
}

// TestS1FormatAgain: all is empty, whatever there was, Version too.
func TestS1FormatAgain(t *testing.T) {
	for commits := range 6 {
		var now state
		d := disk(t, 90)
		s := format(t, d)
		for n := range commits {
			for p := range api.MaxPages {
				put(t, s, &now, p, fmt.Sprint(n, " ", p))
			}
			commit(t, s, &now)
		}
		finds(t, d, now)
		for range 3 {
			s = format(t, d)
			has(t, s, state{}, 0)
		}
		d.Crash(nil, 0)
		now = state{}
		put(t, s, &now, 7, "new")
		commit(t, s, &now)
		finds(t, d, now)
		has(t, format(t, d), state{}, 0)
	}
}

// TestS1OtherBytes: a disk that was used for something else has no Store.
func TestS1OtherBytes(t *testing.T) {
	r := rand.New(rand.NewPCG(7, 1))
	for _, b := range [][]byte{{0}, {1}, {255}, []byte("store"), bytes.Repeat([]byte{0xff}, 64), bytes.Repeat([]byte{'q'}, 64)} {
		d := disk(t, 90)
		for i := range 90 {
			told(t, "Write", d.Write(i, b), api.OK)
		}
		isNone(t, d, api.ErrFile)
		has(t, format(t, d), state{}, 0)
	}
	for range 50 {
		d := disk(t, 90)
		for i := range 90 {
			told(t, "Write", d.Write(i, randomBytes(r, 64)), api.OK)
		}
		isNone(t, d, api.ErrFile)
		has(t, format(t, d), state{}, 0)
	}
}

func randomBytes(r *rand.Rand, n int) []byte {
	b := make([]byte, n)
	for i := range b {
		b[i] = byte(r.IntN(256))
	}
	return b
}

// scrambled is a disk that has blocks of Stores, with some bytes changed, wherever they may stand.
func scrambled(t *testing.T, r *rand.Rand) *block.Disk {
	t.Helper()
	var now state
	from, d := disk(t, 90), disk(t, 90)
	s := format(t, from)
	for range r.IntN(300) {
		put(t, s, &now, r.IntN(api.MaxPages), "page")
		commit(t, s, &now)
	}
	for i := range 90 {
		at := i
		if r.IntN(4) == 0 {
			at = r.IntN(90)
		}
		b, _ := from.Read(at)
		if r.IntN(2) == 0 {
			b[r.IntN(64)] = byte(r.IntN(256))
		}
		told(t, "Write", d.Write(i, b), api.OK)
	}
	told(t, "Flush", d.Flush(), api.OK)
	return d
}

// TestS1AnyDisk: a Format is of use whatever the disk had, and no call panics on a disk that someone else wrote.
func TestS1AnyDisk(t *testing.T) {
	r := rand.New(rand.NewPCG(7, 2))
	for range 300 {
		d := scrambled(t, r)
		if s, err := store.Open(d); err == nil {
			for p := range api.MaxPages {
				s.Get(p)
				s.Put(p, []byte{1})
			}
			s.Version()
			s.Commit()
		} else if plain.Told(err) != api.ErrFile {
			t.Errorf("Open: %v", err)
		}
		s, now := format(t, d), state{}
		has(t, s, now, 0)
		for n := range 3 {
			put(t, s, &now, r.IntN(api.MaxPages), fmt.Sprint("new ", n))
			commit(t, s, &now)
			d.Crash(nil, 0)
			finds(t, d, now)
		}
	}
}

// TestS1SpoiltPage: a page that someone else wrote over, or tore, is an error and no panic.
func TestS1SpoiltPage(t *testing.T) {
	for _, tear := range []int{-1, 0} {
		for i := 2; i < 90; i++ {
			var now state
			d := disk(t, 90)
			s := format(t, d)
			for p := range api.MaxPages {
				put(t, s, &now, p, "page")
			}
			commit(t, s, &now)
			told(t, "Write", d.Write(i, bytes.Repeat([]byte{0xff}, 64)), api.OK)
			d.Crash([]int{0}, tear)
			s = open(t, d)
			for p := range api.MaxPages {
				if b, err := s.Get(p); err != nil && (plain.Told(err) != api.ErrFile || len(b) != 0) {
					t.Errorf("Get(%d) = %q, %v", p, b, err)
				}
			}
		}
	}
}

func TestS1Put(t *testing.T) {
	for _, p := range []int{0, 1, 2, 19, 38, 39} {
		for _, n := range []int{0, 1, 2, 7, 58, 59, 60} {
			var was state
			d := disk(t, 90)
			s := format(t, d)
			now := was
			put(t, s, &now, p, strings.Repeat("x", n))
			has(t, s, now, 1)
			finds(t, d, was) // it is pending, for this Store alone
			for _, more := range []int{61, 62, 63, 64, 65, 128, 255, 256, 300, 316, 1 << 16} {
				told(t, "Put of too much", s.Put(p, make([]byte, more)), api.ErrFull)
			}
			has(t, s, now, 1)
			commit(t, s, &now)
			has(t, s, now, 0)
			finds(t, d, now)
		}
	}
}

// TestS1NoPage: of a number that no page has there is nothing; that is told ahead of too many bytes.
func TestS1NoPage(t *testing.T) {
	var now state
	d := disk(t, api.MaxBlocks)
	s := format(t, d)
	put(t, s, &now, 0, "first")
	put(t, s, &now, 39, "last")
	for range 2 {
		for _, p := range []int{-1, -2, -40, 40, 41, 80, 90, 200, 255, 256, -256, 1 << 32, 1<<32 + 1, most, least, least + 1} {
			for _, n := range []int{0, 1, 60, 61, 100} {
				told(t, fmt.Sprintf("Put(%d) of %d", p, n), s.Put(p, make([]byte, n)), api.ErrRange)
			}
			if b, err := s.Get(p); plain.Told(err) != api.ErrRange || len(b) != 0 {
				t.Errorf("Get(%d) = %q, %v, want ErrRange alone", p, b, err)
			}
		}
		has(t, s, now, s.Pending())
		if s.Pending() == 2 {
			commit(t, s, &now)
		}
	}
	has(t, s, now, 0)
}

// TestS1Over: a page has the bytes of the last Put alone: none of a longer one ahead.
func TestS1Over(t *testing.T) {
	texts := []string{strings.Repeat("l", 60), "short", "", strings.Repeat("\x00", 60), "\x00", "mid", strings.Repeat("\xff", 59), ""}
	for commits := range 4 { // bits: whether to commit behind the first, and behind the second
		for _, first := range texts {
			for _, second := range texts {
				var now state
				d := disk(t, 90)
				s := format(t, d)
				put(t, s, &now, 3, "other")
				put(t, s, &now, 4, first)
				if commits&1 != 0 {
					commit(t, s, &now)
				}
				put(t, s, &now, 4, second)
				if commits&2 != 0 {
					commit(t, s, &now)
					finds(t, d, now)
				}
				has(t, s, now, []int{2, 1, 0, 0}[commits])
			}
		}
	}
}

// TestS1Pending: each page counts once, however often it is put, with what it had already too.
func TestS1Pending(t *testing.T) {
	var now state
	d := disk(t, 90)
	s := format(t, d)
	has(t, s, now, 0)
	for _, c := range []struct {
		page int
		text string
		want int
	}{{5, "a", 1}, {5, "b", 1}, {5, "b", 1}, {6, "", 2}, {6, "", 2}, {0, "c", 3}, {39, "d", 4}, {5, "", 4}, {0, "c", 4}} {
		put(t, s, &now, c.page, c.text)
		has(t, s, now, c.want)
	}
	told(t, "Put", s.Put(40, nil), api.ErrRange)
	told(t, "Put", s.Put(1, make([]byte, 61)), api.ErrFull)
	has(t, s, now, 4)
	commit(t, s, &now)
	has(t, s, now, 0)
	put(t, s, &now, 0, "c") // as it was
	has(t, s, now, 1)
	put(t, s, &now, 1, "") // as it was
	has(t, s, now, 2)
	for p := range api.MaxPages {
		put(t, s, &now, p, "all")
	}
	has(t, s, now, api.MaxPages)
}

// TestS1Bytes: any byte is got as it was put.
func TestS1Bytes(t *testing.T) {
	var now state
	d := disk(t, 90)
	s := format(t, d)
	for p := range api.MaxPages {
		b := make([]byte, 60-p%5)
		for i := range b {
			b[i] = byte(p*60 + i)
		}
		put(t, s, &now, p, string(b))
	}
	has(t, s, now, api.MaxPages)
	commit(t, s, &now)
	has(t, s, now, 0)
	d.Crash(nil, 0)
	finds(t, d, now)
}

// TestS1Stays: what is handed in is as it was, and the Store shares no memory with it.
func TestS1Stays(t *testing.T) {
	for _, n := range []int{0, 1, 30, 59, 60, 61, 80} {
		memory := bytes.Repeat([]byte{'m'}, n+70)
		was := slices.Clone(memory)
		var now state
		d := disk(t, 90)
		s := format(t, d)
		bad := s.Put(9, memory[:n]) != nil
		s.Put(40, memory[:n])
		if !bad {
			now.pages[9] = string(was[:n])
		}
		has(t, s, now, s.Pending())
		s.Get(9)
		if bad != (n > 60) || !bytes.Equal(memory, was) {
			t.Errorf("%d bytes: wrong is %v; handed in is %q now, was %q", n, bad, memory, was)
		}
		clear(memory)
		has(t, s, now, s.Pending())
		commit(t, s, &now)
		for i := range memory {
			memory[i] = '?'
		}
		finds(t, d, now)
		has(t, s, now, 0)
	}
}

// TestS1Fresh: what is got shares no memory with the Store, nor with what else is got.
func TestS1Fresh(t *testing.T) {
	var now state
	d := disk(t, 90)
	s := format(t, d)
	spoil := func() {
		t.Helper()
		for p := range api.MaxPages {
			one, _ := s.Get(p)
			other, _ := s.Get(p)
			one = one[:cap(one)]
			for i := range one {
				one[i] = '!'
			}
			if string(other) != now.pages[p] {
				t.Errorf("what was got of page %d is %q now, was %q", p, other, now.pages[p])
			}
		}
	}
	for _, text := range []string{"pending", "", "longer than the one ahead of it"} {
		put(t, s, &now, 0, text)
		put(t, s, &now, 1, "b")
		spoil()
		has(t, s, now, 2)
		commit(t, s, &now)
		spoil()
		has(t, s, now, 0)
		finds(t, d, now)
	}
}
