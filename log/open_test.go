package log_test

import (
	"bytes"
	"fmt"
	"math/rand/v2"
	"slices"
	"testing"

	"quarterday/api"
	"quarterday/block"
	"quarterday/log"
	"quarterday/store"
)

// goesOn fails the test where a log that has these records is not one as any other: it takes more till it is full, and they are there.
func (p place) goesOn(t *testing.T, list []string) {
	t.Helper()
	list = slices.Clone(list)
	for n := range 3 {
		l := p.open(t)
		p.has(t, l, list)
		for _, bytes := range []int{1, 31 + n, 58, 77} {
			if l.Room() >= bytes+2 {
				add(t, l, &list, text(bytes, 900+n))
			}
		}
		sync(t, l)
		p.d.Crash([]int{0, 1, 2}, n)
		p.finds(t, list)
	}
	l := p.open(t)
	for l.Room() > 2 {
		add(t, l, &list, text(min(200, l.Room()-2), 999))
	}
	sync(t, l)
	p.d.Crash(nil, 0)
	p.finds(t, list)
}

// TestL2Never: of blocks that never had a Format all is empty, whatever they have; and there is a log that takes records.
func TestL2Never(t *testing.T) {
	r := rand.New(rand.NewPCG(8, 2))
	fills := []func(d *block.Disk, i int) []byte{
		func(*block.Disk, int) []byte { return nil },
		func(*block.Disk, int) []byte { return []byte{1} },
		func(*block.Disk, int) []byte { return bytes.Repeat([]byte{1}, 64) },
		func(*block.Disk, int) []byte { return bytes.Repeat([]byte{255}, 64) },
		func(_ *block.Disk, i int) []byte { return []byte{byte(i), 0, 1, 60, 0, 3, 'a', 'b', 'c'} },
		func(_ *block.Disk, i int) []byte { return []byte{byte(i), 0, 1, 60 | 128, 0, 3, 'a', 'b', 'c'} },
		func(*block.Disk, int) []byte {
			b := make([]byte, 64)
			for i := range b {
				b[i] = byte(r.IntN(256))
			}
			return b
		},
	}
	for _, fill := range fills {
		for _, many := range []int{1, 2, 3, 4, 12, 60} {
			for way := range 4 {
				p := place{disk(t, 60), 60 - many, many}
				for i := range 60 {
					told(t, "Write", p.d.Write(i, fill(p.d, i)), api.OK)
				}
				if way&1 != 0 {
					p.d.Crash(numbers(0, 60), r.IntN(60))
				}
				p.finds(t, nil)
				if way&2 != 0 {
					p.has(t, p.format(t), nil)
				}
				p.goesOn(t, nil)
			}
		}
	}
}

// TestL2NeverTorn: as TestL2Never, where blocks can not be read.
func TestL2NeverTorn(t *testing.T) {
	p := place{disk(t, 12), 2, 9}
	for i := range 12 {
		told(t, "Write", p.d.Write(i, []byte("x")), api.OK)
		p.d.Crash([]int{0}, 0)
	}
	p.finds(t, nil)
	p.goesOn(t, nil)
}

// TestL2OtherUse: a disk that had a Store has no log, and none where another log was that is not this one.
func TestL2OtherUse(t *testing.T) {
	d := disk(t, 100)
	told(t, "Format", store.Format(d), api.OK)
	s, err := store.Open(d)
	told(t, "Open", err, api.OK)
	for page := range api.MaxPages {
		told(t, "Put", s.Put(page, []byte(text(60, page))), api.OK)
	}
	told(t, "Commit", s.Commit(), api.OK)
	for _, p := range []place{{d, 0, 100}, {d, 2, 30}, {d, 40, 60}, {d, 1, 3}} {
		p.finds(t, nil)
	}
	place{d, 2, 80}.goesOn(t, nil)
	for _, one := range []place{{nil, 0, 12}, {nil, 3, 9}, {nil, 3, 12}, {nil, 5, 40}, {nil, 11, 12}} {
		for _, other := range []place{{nil, 0, 12}, {nil, 3, 12}, {nil, 4, 12}, {nil, 3, 9}, {nil, 2, 50}} {
			if one == other {
				continue
			}
			d := disk(t, 60)
			first, second := place{d, one.from, one.many}, place{d, other.from, other.many}
			l := first.format(t)
			var list []string
			for n := range 6 {
				add(t, l, &list, text(20+10*n, n))
				sync(t, l)
				l = first.open(t)
			}
			second.finds(t, nil) // it never had a Format
			second.has(t, second.format(t), nil)
			second.goesOn(t, nil)
		}
	}
}

// TestL2NotWhole: where the first block is another one by some bytes there is no log.
func TestL2NotWhole(t *testing.T) {
	p, list := laid(t)
	p.finds(t, list)
	head, _ := p.d.Read(p.from)
	for i := range 5 {
		b := slices.Clone(head)
		b[i] ^= 1 << i
		told(t, "Write", p.d.Write(p.from, b), api.OK)
		p.finds(t, nil)
	}
	p.goesOn(t, nil)
}

// TestL2Opens: Open changes nothing, however often it is asked; a Log that is open goes on beside it.
func TestL2Opens(t *testing.T) {
	p := place{disk(t, 20), 4, 15}
	p.finds(t, nil)
	l := p.format(t)
	var list []string
	for n := range 12 {
		steps, was := p.d.Steps(), image(p.d)
		p.d.Fail(0) // nor does it ask the disk to do something
		for range 3 {
			p.finds(t, list)
		}
		p.d.Fail(-1)
		if p.d.Steps() != steps || !slices.Equal(image(p.d), was) {
			t.Error("Open changes something")
		}
		add(t, l, &list, text(10*n+1, n))
		if n%5 == 4 {
			sync(t, l)
		}
	}
	sync(t, l)
	p.d.Crash(nil, 0)
	p.finds(t, list)
}

// TestL2Two: of two logs on one disk each has its own records, is full for itself, and is made empty for itself.
func TestL2Two(t *testing.T) {
	d := disk(t, 40)
	a, b := place{d, 0, 17}, place{d, 17, 23}
	la, lb := a.format(t), b.format(t)
	var ofA, ofB []string
	for n := 0; la.Room() > 2 || lb.Room() > 2; n++ {
		if la.Room() > 2 {
			add(t, la, &ofA, text(min(la.Room()-2, 30+n), n))
		}
		if lb.Room() > 2 {
			add(t, lb, &ofB, text(min(lb.Room()-2, 40+n), 100+n))
		}
		a.has(t, la, ofA)
		b.has(t, lb, ofB)
		a.finds(t, ofA)
		b.finds(t, ofB)
		if n%4 == 0 {
			sync(t, la)
			sync(t, lb)
			lb = b.open(t)
		}
	}
	sync(t, la)
	sync(t, lb)
	d.Crash(nil, 0)
	a.finds(t, ofA)
	b.finds(t, ofB)
	a.has(t, a.format(t), nil)
	b.finds(t, ofB)
	a.goesOn(t, nil)
	b.finds(t, ofB)
	b.has(t, b.format(t), nil)
	b.goesOn(t, nil)
	a.format(t)
	a.finds(t, nil)
}

// TestL2AnyDisk: no call panics on a log that someone else wrote into, and a Format is of use there.
func TestL2AnyDisk(t *testing.T) {
	r := rand.New(rand.NewPCG(8, 3))
	for range 2000 {
		p := whole(t, 3+r.IntN(20))
		l := p.format(t)
		for range r.IntN(30) {
			l.Append(make([]byte, 1+r.IntN(60)))
			if r.IntN(3) == 0 {
				l.Sync()
				l = p.open(t)
			}
		}
		for range 1 + r.IntN(8) {
			b, _ := p.d.Read(r.IntN(p.many))
			if at := r.IntN(9); at < 8 {
				b[at] = byte(r.IntN(256))
			}
			told(t, "Write", p.d.Write(1+r.IntN(p.many-1), b), api.OK)
		}
		l = p.open(t)
		if len(l.All()) != l.Len() || l.Room() != p.room(seen(l)) {
			t.Errorf("All has %d, Len %d, Room %d", len(l.All()), l.Len(), l.Room())
		}
		for _, b := range l.All() {
			if len(b) < 1 || len(b) > 200 {
				t.Errorf("a record of %d bytes", len(b))
			}
		}
		for l.Room() > 2 {
			if _, err := l.Append(make([]byte, min(200, l.Room()-2))); err != nil {
				t.Error(err)
			}
		}
		sync(t, l)
		p.open(t)
		p.has(t, p.format(t), nil)
		p.goesOn(t, nil)
		if t.Failed() {
			t.Fatal(p.many)
		}
	}
}

// TestL2OldLog: a Log that was open ahead of a Format panics nowhere.
func TestL2OldLog(t *testing.T) {
	for records := range 9 {
		p := whole(t, 9)
		old := p.open(t)
		l := p.format(t)
		for n := range records {
			l.Append([]byte(text(40, n)))
		}
		p.format(t)
		for _, one := range []*log.Log{old, l} {
			for one.Room() > 2 {
				one.Append(make([]byte, min(50, one.Room()-2)))
				one.Sync()
				p.open(t).All()
			}
		}
		p.has(t, p.format(t), nil)
		p.goesOn(t, nil)
	}
}

// TestL2Often: a log is opened very often, and each time there is something left that counts no more.
func TestL2Often(t *testing.T) {
	p := place{disk(t, 8), 1, 6}
	l := p.format(t)
	var list []string
	add(t, l, &list, text(50, 0))
	sync(t, l)
	for n := range 59_000 {
		l = p.open(t)
		if got := seen(l); len(got) != len(list) || got[len(got)-1] != list[len(list)-1] {
			t.Fatalf("%d times opened: %q, want %q", n, got, list)
		}
		if _, err := l.Append(bytes.Repeat([]byte{byte(n)}, 120)); err != nil {
			t.Fatal(err)
		}
		p.d.Crash([]int{1, 2}, -1) // the first piece of it is lost
		if n == 50_000 {
			l = p.open(t)
			add(t, l, &list, "kept")
			sync(t, l)
		}
	}
	p.goesOn(t, list)
}

// TestL2OftenWritten: as TestL2Often, where each one is kept, till the log is full, and is made empty then.
func TestL2OftenWritten(t *testing.T) {
	p := whole(t, 12)
	p.format(t)
	var list []string
	for n := range 59_000 {
		l := p.open(t)
		if l.Room() < 40 {
			p.has(t, l, list)
			l, list = p.format(t), nil
		}
		add(t, l, &list, fmt.Sprint(n))
		p.d.Crash([]int{0, 1}, -1)
	}
	p.goesOn(t, list)
}
