package log_test

import (
	"bytes"
	"fmt"
	"math"
	"math/rand/v2"
	"slices"
	"strings"
	"testing"

	"quarterday/api"
	"quarterday/block"
	"quarterday/log"
	"quarterday/plain"
)

const (
	most  = math.MaxInt
	least = math.MinInt
)

// disk makes one.
func disk(t *testing.T, blocks int) *block.Disk {
	t.Helper()
	d, err := block.New(blocks)
	if err != nil {
		t.Fatal(err)
	}
	return d
}

// told fails the test where a call's error is another one.
func told(t *testing.T, call string, err error, want api.Errno) {
	t.Helper()
	if plain.Told(err) != want {
		t.Errorf("%s: %v, want %v", call, err, want)
	}
}

// place is where a log is.
type place struct {
	d          *block.Disk
	from, many int
}

// whole is a log on all blocks of a new disk.
func whole(t *testing.T, many int) place {
	t.Helper()
	return place{disk(t, many), 0, many}
}

// open is an Open without an error.
func (p place) open(t *testing.T) *log.Log {
	t.Helper()
	l, err := log.Open(p.d, p.from, p.many)
	if err != nil || l == nil {
		t.Fatalf("Open(%d, %d) = %v, %v", p.from, p.many, l, err)
	}
	return l
}

// format is a Format without an error, and the Log that there is then.
func (p place) format(t *testing.T) *log.Log {
	t.Helper()
	told(t, fmt.Sprintf("Format(%d, %d)", p.from, p.many), log.Format(p.d, p.from, p.many), api.OK)
	return p.open(t)
}

// room is how many bytes more fit beside records.
func (p place) room(list []string) int {
	n := max(0, 60*(p.many-2))
	for _, r := range list {
		n -= len(r) + 2
	}
	return n
}

// has fails the test where a Log has other records.
func (p place) has(t *testing.T, l *log.Log, want []string) {
	t.Helper()
	if got := seen(l); !slices.Equal(got, want) {
		t.Errorf("All = %q, want %q", got, want)
	}
	if l.Len() != len(want) || l.Room() != p.room(want) {
		t.Errorf("Len %d, Room %d, want %d, %d", l.Len(), l.Room(), len(want), p.room(want))
	}
}

// finds fails the test where Open finds other records.
func (p place) finds(t *testing.T, want []string) {
	t.Helper()
	p.has(t, p.open(t), want)
}

// seen is all that a Log has.
func seen(l *log.Log) (list []string) {
	for _, b := range l.All() {
		list = append(list, string(b))
	}
	return list
}

// add is an Append without an error, told to a list too.
func add(t *testing.T, l *log.Log, list *[]string, record string) {
	t.Helper()
	n, err := l.Append([]byte(record))
	if err != nil || n != len(*list) {
		t.Errorf("Append of %d bytes = %d, %v, want %d", len(record), n, err, len(*list))
	}
	*list = append(*list, record)
}

// refuses fails the test where an Append answers something else than an error.
func refuses(t *testing.T, l *log.Log, bytes int, want api.Errno) {
	t.Helper()
	if n, err := l.Append(make([]byte, bytes)); plain.Told(err) != want || n != 0 {
		t.Errorf("Append of %d bytes = %d, %v, want %v alone", bytes, n, err, want)
	}
}

// sync is a Sync without an error.
func sync(t *testing.T, l *log.Log) {
	t.Helper()
	told(t, "Sync", l.Sync(), api.OK)
}

// text is a record of so many bytes, unlike others.
func text(bytes, unlike int) string {
	return strings.Repeat(fmt.Sprint(unlike, "/", bytes, " "), bytes)[:bytes]
}

// image is what all blocks of a disk have.
func image(d *block.Disk) (all []string) {
	for i := range d.Blocks() {
		b, err := d.Read(i)
		all = append(all, fmt.Sprint(b, err))
	}
	return all
}

// TestL1Range: blocks that a disk has, from one to all of them; none is changed by a call that is told of others.
func TestL1Range(t *testing.T) {
	numbers := []int{least, least + 1, -200, -2, -1, 0, 1, 2, 3, 4, 11, 12, 13, 100, 198, 199, 200, 201, 256, 400, 1 << 32, 1<<32 + 1, most - 1, most}
	for _, blocks := range []int{1, 2, 3, 12, 199, api.MaxBlocks} {
		for _, from := range numbers {
			for _, many := range numbers {
				p := place{disk(t, blocks), from, many}
				if from >= 0 && from < blocks && many >= 1 && many <= blocks && from+many <= blocks {
					p.finds(t, nil)
					p.has(t, p.format(t), nil)
					p.finds(t, nil)
					continue
				}
				was := image(p.d)
				for _, fail := range []int{-1, 0} { // ahead of the disk's errors
					p.d.Fail(fail)
					told(t, fmt.Sprintf("Format(%d, %d) of %d", from, many, blocks), log.Format(p.d, from, many), api.ErrRange)
					if l, err := log.Open(p.d, from, many); plain.Told(err) != api.ErrRange || l != nil {
						t.Errorf("Open(%d, %d) of %d = %v, %v, want ErrRange alone", from, many, blocks, l, err)
					}
				}
				if p.d.Steps() != 0 || !slices.Equal(image(p.d), was) {
					t.Errorf("Format(%d, %d) of %d does something", from, many, blocks)
				}
			}
		}
	}
}

// TestL1Ends: a log that ends with the disk's last block has all of its own, and writes no other.
func TestL1Ends(t *testing.T) {
	for _, blocks := range []int{12, 50, api.MaxBlocks} {
		for _, many := range []int{1, 2, 3, 4, 5, 12} {
			for _, from := range []int{0, 1, 5, blocks - many - 1, blocks - many} {
				if from < 0 || from+many > blocks {
					continue
				}
				p := place{disk(t, blocks), from, many}
				was := image(p.d)
				var list []string
				l := p.format(t)
				for n := 0; l.Room() > 2; n++ {
					add(t, l, &list, text(min(l.Room()-2, 7+11*n), n))
					if n%2 == 0 {
						sync(t, l)
					}
				}
				sync(t, l)
				p.d.Crash(nil, 0)
				p.finds(t, list)
				now := image(p.d)
				if !slices.Equal(now[:from], was[:from]) || !slices.Equal(now[from+many:], was[from+many:]) {
					t.Errorf("a log of %d from %d on writes other blocks", many, from)
				}
			}
		}
	}
}

func TestL1Format(t *testing.T) {
	for _, many := range []int{1, 2, 3, 4, 12, 199, api.MaxBlocks} {
		p := whole(t, many)
		p.has(t, p.format(t), nil)
		p.d.Crash(nil, 0)
		p.finds(t, nil)
		if got, want := p.open(t).Room(), max(0, many-2)*60; got != want {
			t.Errorf("Room of %d blocks = %d, want %d", many, got, want)
		}
	}
}

func TestL1FormatFails(t *testing.T) {
	p := whole(t, 12)
	p.d.Fail(0)
	told(t, "Format", log.Format(p.d, 0, 12), api.ErrState)
	p.finds(t, nil)
	p.d.Crash(nil, 0)
	p.finds(t, nil)
	p.has(t, p.format(t), nil)
}

// TestL1FormatAgain: it is empty, whatever there was, for good; and has all of its room.
func TestL1FormatAgain(t *testing.T) {
	for _, synced := range []bool{false, true} {
		for records := range 9 {
			p := whole(t, 9)
			l := p.format(t)
			var list []string
			for n := range records {
				add(t, l, &list, text(20+5*n, n))
				if n%3 == 0 {
					sync(t, l)
					l = p.open(t)
				}
			}
			if synced {
				sync(t, l)
			}
			p.finds(t, list)
			for n := range 3 {
				l = p.format(t)
				p.has(t, l, nil)
				p.d.Crash(nil, 0)
				p.finds(t, nil)
				list = nil
				for len(list) <= n {
					add(t, l, &list, text(130, n))
				}
				p.finds(t, list)
				sync(t, l)
				p.d.Crash(nil, 0)
				p.finds(t, list)
			}
		}
	}
}

// TestL1FormatOften: also very often, each with and without records ahead of it.
func TestL1FormatOften(t *testing.T) {
	p := whole(t, 4)
	l := p.format(t)
	for n := range 70_000 {
		told(t, "Format", log.Format(p.d, p.from, p.many), api.OK)
		if n%70 == 0 {
			l = p.open(t)
			var list []string
			add(t, l, &list, text(100, n))
			p.finds(t, list)
		}
	}
	p.finds(t, nil)
	p.goesOn(t, nil)
}

// TestL1Append: records of all lengths, in order, with and without a Sync and an Open behind each.
func TestL1Append(t *testing.T) {
	for way := range 4 {
		p := whole(t, api.MaxBlocks)
		l := p.format(t)
		var list []string
		for _, n := range []int{1, 2, 3, 20, 57, 58, 59, 60, 61, 62, 117, 118, 119, 120, 121, 122, 199, 200, 1, 200, 200, 200, 58, 58, 58, 57, 1, 1, 1} {
			add(t, l, &list, text(n, len(list)))
			p.has(t, l, list)
			p.finds(t, list)
			if way&1 != 0 {
				sync(t, l)
				p.has(t, l, list)
			}
			if way&2 != 0 {
				l = p.open(t)
				p.has(t, l, list)
			}
		}
		sync(t, l)
		p.d.Crash(nil, 0)
		p.finds(t, list)
	}
}

// TestL1Wrong: what is no record, or one that is too long; nothing is changed by it, and nothing written.
func TestL1Wrong(t *testing.T) {
	for _, many := range []int{3, 5, 6, 12, api.MaxBlocks} {
		p := whole(t, many)
		l := p.format(t)
		var list []string
		for range 3 {
			was, steps := image(p.d), p.d.Steps()
			for _, fail := range []int{-1, 0} { // ahead of the disk's errors
				p.d.Fail(fail)
				refuses(t, l, 0, api.ErrShape)
				for _, n := range []int{201, 202, 255, 256, 257, 400, 1 << 16, 1<<16 + 1, 1 << 20} {
					refuses(t, l, n, api.ErrFull)
				}
			}
			p.d.Fail(-1)
			p.has(t, l, list)
			if p.d.Steps() != steps || !slices.Equal(image(p.d), was) {
				t.Error("a record that is none is written")
			}
			add(t, l, &list, "still")
			sync(t, l)
		}
		if n, err := l.Append([]byte{}); n != 0 || plain.Told(err) != api.ErrShape {
			t.Errorf("Append of an empty one = %d, %v", n, err)
		}
		p.finds(t, list)
	}
}

// TestL1NoRoom: a log of one block, or of two, has none.
func TestL1NoRoom(t *testing.T) {
	for _, many := range []int{1, 2} {
		for _, p := range []place{whole(t, many), {disk(t, 12), 10, many}, {disk(t, 12), 0, many}} {
			was := image(p.d)
			for _, l := range []*log.Log{p.open(t), p.format(t)} {
				for _, n := range []int{1, 2, 58, 200, 201} {
					refuses(t, l, n, api.ErrFull)
				}
				refuses(t, l, 0, api.ErrShape)
				p.has(t, l, nil)
				sync(t, l)
				p.has(t, l, nil)
				p.finds(t, nil)
			}
			if now := image(p.d); !slices.Equal(now[p.from+many:], was[p.from+many:]) || !slices.Equal(now[:p.from], was[:p.from]) {
				t.Errorf("a log of %d blocks writes others", many)
			}
		}
	}
}

// TestL1Exact: what fits exactly comes in, and one byte more does not.
func TestL1Exact(t *testing.T) {
	for _, many := range []int{3, 4, 5, 6, 12} {
		for left := range 130 { // how much room there is for the last one
			for _, synced := range []bool{false, true} {
				p := whole(t, many)
				l := p.format(t)
				var list []string
				for l.Room() > left {
					n := min(50, l.Room()-left-2)
					if n < 1 {
						break
					}
					add(t, l, &list, text(n, len(list)))
				}
				if synced {
					sync(t, l)
					l = p.open(t)
				}
				left := l.Room()
				for _, n := range []int{left - 1, left, left + 1, left + 2} {
					if n > 0 {
						refuses(t, l, n, api.ErrFull)
					}
				}
				if left > 2 {
					add(t, l, &list, text(left-2, 0))
					left = 0
				}
				if l.Room() != left {
					t.Errorf("Room = %d, want %d", l.Room(), left)
				}
				refuses(t, l, 1, api.ErrFull)
				refuses(t, l, 0, api.ErrShape)
				p.has(t, l, list)
				sync(t, l)
				p.d.Crash(nil, 0)
				p.finds(t, list)
				refuses(t, p.open(t), 1, api.ErrFull)
			}
		}
	}
}

// TestL1Full: a log of as many blocks as there may be, full of the shortest and of the longest records; also where each is synced.
func TestL1Full(t *testing.T) {
	for _, n := range []int{1, 58, 200} {
		for _, synced := range []bool{false, true} {
			p := whole(t, api.MaxBlocks)
			l := p.format(t)
			var list []string
			for l.Room() >= n+2 {
				add(t, l, &list, text(n, len(list)))
				if synced {
					sync(t, l)
				}
			}
			if len(list) != 198*60/(n+2) {
				t.Errorf("%d records of %d bytes", len(list), n)
			}
			refuses(t, l, n, api.ErrFull)
			sync(t, l)
			p.d.Crash(nil, 0)
			p.finds(t, list)
		}
	}
}

// TestL1OverEnds: records that end at, ahead of and behind the end of a block, and lie over several.
func TestL1OverEnds(t *testing.T) {
	for first := 1; first <= 130; first++ {
		for _, second := range []int{1, 2, 55, 56, 57, 58, 59, 60, 61, 116, 117, 118, 119, 200} {
			for way := range 4 {
				p := whole(t, 12)
				l := p.format(t)
				var list []string
				for n, bytes := range []int{first, second, first} {
					add(t, l, &list, text(bytes, n))
					if way&1 != 0 {
						sync(t, l)
					}
					if way&2 != 0 {
						l = p.open(t)
					}
				}
				sync(t, l)
				p.d.Crash(nil, 0)
				p.finds(t, list)
			}
		}
	}
}

// TestL1Sync: what was synced is there behind a Crash that keeps nothing, what was not may be gone.
func TestL1Sync(t *testing.T) {
	p := whole(t, 12)
	l := p.format(t)
	sync(t, l)
	sync(t, l)
	p.has(t, l, nil)
	var list []string
	for n := range 5 {
		add(t, l, &list, text(30+n, n))
		sync(t, l)
		p.d.Crash(nil, 0)
		p.has(t, l, list) // this one goes on
		p.finds(t, list)
		sync(t, l)
		p.finds(t, list)
	}
	gone := slices.Clone(list)
	add(t, l, &gone, "not synced")
	p.d.Crash(nil, 0)
	if got := p.open(t).Len(); got != 5 && got != 6 {
		t.Errorf("Open finds %d", got)
	}
	// Of what Open found all is safe too behind a Sync.
	l = p.open(t)
	list = seen(l)
	add(t, l, &list, text(200, 1))
	l = p.open(t)
	sync(t, l)
	p.d.Crash(nil, 0)
	p.finds(t, list)
}

// TestL1SyncAnyhow: a Sync without an error makes all safe, though there was a Crash since.
func TestL1SyncAnyhow(t *testing.T) {
	for _, c := range crashes(6) {
		p := whole(t, 12)
		l := p.format(t)
		var list []string
		add(t, l, &list, text(33, 0))
		sync(t, l)
		for n := range 3 {
			add(t, l, &list, text(60, n))
		}
		p.d.Crash(c.keep, c.torn)
		p.has(t, l, list)
		add(t, l, &list, "behind")
		sync(t, l)
		p.d.Crash(nil, 0)
		p.finds(t, list)
		if t.Failed() {
			t.Fatalf("behind Crash(%v, %d)", c.keep, c.torn)
		}
	}
}

// TestL1FewSteps: a Log opened behind a Crash only writes, and a Sync writes nothing that is there already: so a disk that stops soon has much of it.
func TestL1FewSteps(t *testing.T) {
	p := whole(t, 12)
	p.format(t)
	p.d.Crash(nil, 0)
	l := p.open(t)
	var list []string
	for n := range 3 {
		add(t, l, &list, text(58, n))
	}
	sync(t, l)
	if p.d.Steps() != 4 {
		t.Errorf("3 records of a block each, and a Sync, take %d steps", p.d.Steps())
	}
	p.d.Crash(nil, 0)
	p.finds(t, list)
}

// ofNoUse fails the test where a Log does something behind an error of the disk; what it had it still tells.
func (p place) ofNoUse(t *testing.T, l *log.Log, list []string) {
	t.Helper()
	steps := p.d.Steps()
	for range 2 {
		p.has(t, l, list)
		for _, n := range []int{0, 1, 200, 201, 1 << 16} { // also where a record is none
			refuses(t, l, n, api.ErrState)
		}
		told(t, "Sync", l.Sync(), api.ErrState)
	}
	if p.d.Steps() != steps {
		t.Error("a Log of no use does something")
	}
}

// TestL1Lost: behind an error of the disk, whichever step it was, whatever the disk does then.
func TestL1Lost(t *testing.T) {
	for _, bytes := range []int{1, 25, 58, 130, 200} {
		for at, done := 0, false; !done; at++ {
			p := whole(t, 12)
			l := p.format(t)
			var list []string
			add(t, l, &list, text(41, 0))
			sync(t, l)
			l = p.open(t)
			p.d.Fail(p.d.Steps() + at)
			n, err := l.Append([]byte(text(bytes, 1)))
			if err == nil {
				list = append(list, text(bytes, 1))
				if n != 1 {
					t.Errorf("Append = %d", n)
				}
				err = l.Sync()
			} else if n != 0 {
				t.Errorf("Append = %d, %v", n, err)
			}
			if done = err == nil; done {
				if at < 3 {
					t.Errorf("an Append and a Sync take %d steps: they can not be safe", at)
				}
				break
			}
			told(t, "what is under way", err, api.ErrState)
			p.ofNoUse(t, l, list)
			p.finds(t, list)
			p.d.Fail(-1)
			p.ofNoUse(t, l, list)
			p.d.Crash(nil, 0)
			p.ofNoUse(t, l, list)
			again := p.open(t)
			found := seen(again)
			if !begins(list, found) || len(found) < 1 {
				t.Errorf("Open finds %q, of %q", found, list)
			}
			add(t, again, &found, "again")
			sync(t, again)
			p.ofNoUse(t, l, list)
			p.finds(t, found)
		}
	}
}

// begins tells whether a list begins with a part.
func begins(list, part []string) bool {
	return len(part) <= len(list) && slices.Equal(list[:len(part)], part)
}

// TestL1Bytes: any bytes are told as they came in, also those that look like lengths and heads.
func TestL1Bytes(t *testing.T) {
	r := rand.New(rand.NewPCG(8, 1))
	for range 200 {
		p := whole(t, 30)
		l := p.format(t)
		var list []string
		for l.Room() > 202 {
			b := make([]byte, 1+r.IntN(200))
			for i := range b {
				b[i] = [4]byte{0, 1, 255, byte(r.IntN(256))}[r.IntN(4)]
			}
			add(t, l, &list, string(b))
			if r.IntN(3) == 0 {
				sync(t, l)
				l = p.open(t)
			}
		}
		p.has(t, l, list)
		sync(t, l)
		p.d.Crash(nil, 0)
		p.finds(t, list)
	}
}

// TestL1Stays: what is handed in is as it was, and the Log shares no memory with it.
func TestL1Stays(t *testing.T) {
	for _, n := range []int{0, 1, 30, 58, 59, 60, 61, 199, 200, 201, 300} {
		memory := bytes.Repeat([]byte{'m'}, n+90)
		was := slices.Clone(memory)
		p := whole(t, 12)
		l := p.format(t)
		var list []string
		add(t, l, &list, "ahead")
		if _, err := l.Append(memory[:n]); err == nil {
			list = append(list, string(was[:n]))
		}
		l.Sync()
		l.All()
		if (len(list) == 2) != (n > 0 && n <= 200) || !bytes.Equal(memory, was) {
			t.Errorf("%d bytes: handed in is %q now, was %q", n, memory, was)
		}
		clear(memory)
		p.has(t, l, list)
		add(t, l, &list, "behind")
		sync(t, l)
		for i := range memory {
			memory[i] = '?'
		}
		p.has(t, l, list)
		p.finds(t, list)
	}
}

// TestL1Fresh: what All gives shares no memory with the Log, nor with what else it gives.
func TestL1Fresh(t *testing.T) {
	p := whole(t, 20)
	l := p.format(t)
	var list []string
	for n := range 12 {
		add(t, l, &list, text(1+7*n, n))
		if n%4 == 3 {
			sync(t, l)
			l = p.open(t)
		}
		one, other := l.All(), l.All()
		for i := range one {
			b := one[i][:cap(one[i])]
			for j := range b {
				b[j] = '!'
			}
			for k := range one {
				if k > i && string(one[k]) != list[k] {
					t.Errorf("record %d shares memory with %d", k, i)
				}
			}
		}
		one = append(one[:cap(one)], nil)
		clear(one)
		for i := range other {
			if string(other[i]) != list[i] {
				t.Errorf("what was told of %d is %q now, was %q", i, other[i], list[i])
			}
		}
		p.has(t, l, list)
		p.finds(t, list)
	}
	sync(t, l)
	p.finds(t, list)
}
