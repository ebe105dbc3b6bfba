package keep_test

import (
	"fmt"
	"slices"
	"strings"
	"testing"

	"quarterday/api"
	"quarterday/block"
	"quarterday/keep"
)

// TestK1SaveNone: no entries are none, as often as they are saved; but they are fewer than any that are kept.
func TestK1SaveNone(t *testing.T) {
	d := laid(t)
	for range 3 {
		save(t, d, nil)
		save(t, d, []api.Entry{})
	}
	d.Crash(nil, 0)
	has(t, d)
	save(t, d, some(1))
	refuses(t, d, nil, api.ErrOrder)
	refuses(t, d, []api.Entry{}, api.ErrOrder)
}

// TestK1SaveAgain: as many as are kept, or more; nothing is there twice.
func TestK1SaveAgain(t *testing.T) {
	d := laid(t)
	l := some(40)
	for _, many := range []int{1, 1, 2, 2, 2, 5, 5, 6, 20, 21, 40, 40} {
		for range 2 {
			save(t, d, l[:many])
			d.Crash(nil, 0)
			has(t, d, l[:many]...)
		}
	}
}

// TestK1SaveEach: one by one it is as all at once, also where one is as another.
func TestK1SaveEach(t *testing.T) {
	l := some(30)
	for _, l := range [][]api.Entry{l, all(l[:3], l[:3], l[:3]), slices.Repeat(l[4:5], 20), list(200, 4)} {
		d, once := laid(t), laid(t)
		for n := range l {
			save(t, d, l[:n+1])
		}
		save(t, once, l)
		for _, d := range []*block.Disk{d, once} {
			d.Crash(nil, 0)
			has(t, d, l...)
			goesOn(t, d, l)
		}
	}
}

// TestK1SaveFewer: fewer entries than are kept, whatever they are.
func TestK1SaveFewer(t *testing.T) {
	l := some(7)
	d := laid(t, l...)
	for many := range 7 {
		refuses(t, d, l[:many], api.ErrOrder)
		refuses(t, d, l[7-many:], api.ErrOrder)
		refuses(t, d, make([]api.Entry, many), api.ErrOrder)
	}
	for _, w := range wrongs() { // ahead of what is wrong with one
		refuses(t, d, []api.Entry{w.Entry}, api.ErrOrder)
	}
	refuses(t, d, list(6, 201), api.ErrOrder)
	has(t, d, l...)
	save(t, d, l)
}

// changed are entries unlike one by something.
func changed(e api.Entry) (l []api.Entry) {
	for i := range 11 {
		o := e
		o.Lines = slices.Clone(e.Lines)
		last := len(o.Lines) - 1
		switch i {
		case 0:
			o.Ref += "-"
		case 1:
			o.Ref = ""
		case 2:
			o.Entity++
		case 3:
			o.Period++
		case 4:
			o.Entity, o.Period = o.Period, o.Entity
		case 5:
			o.Lines[last].Account = "x"
		case 6:
			o.Lines[0].Cur = "x"
		case 7:
			o.Lines[0].Amount = -o.Lines[0].Amount
		case 8:
			o.Lines[last].Amount++
		case 9:
			o.Lines = o.Lines[:last]
		case 10:
			o.Lines = append(o.Lines, api.Line{})
		}
		l = append(l, o)
	}
	return l
}

// TestK1SaveOther: another entry in the place of one that is kept.
func TestK1SaveOther(t *testing.T) {
	var l []api.Entry
	for i := range 9 {
		l = append(l, sized(80+i, 62+i)) // Entity and Period are unlike
	}
	d := laid(t, l...)
	for _, at := range []int{0, 4, 8} {
		for _, o := range changed(l[at]) {
			refuses(t, d, put(l, at, o), api.ErrOrder)
			refuses(t, d, all(put(l, at, o), some(3)), api.ErrOrder)
		}
		refuses(t, d, put(l, at, l[(at+1)%9]), api.ErrOrder)
		refuses(t, d, slices.Delete(all(l, some(1)), at, at+1), api.ErrOrder)
		refuses(t, d, slices.Insert(slices.Clone(l), at, l[(at+1)%9]), api.ErrOrder)
	}
	d.Crash(nil, 0)
	has(t, d, l...)
	save(t, d, l)
}

// wrong is an entry that chapter 5 refuses, and its error.
type wrong struct {
	api.Entry
	want api.Errno
}

// wrongs are of each error, alone and with others behind it.
func wrongs() (l []wrong) {
	long := strings.Repeat("a", api.MaxName+1)
	right := sized(100, 7)
	add := func(want api.Errno, change func(e *api.Entry)) {
		e := right
		e.Lines = slices.Clone(right.Lines)
		change(&e)
		l = append(l, wrong{e, want})
	}
	for _, n := range []int{least, -201, -1, api.MaxItems + 1, most} {
		add(api.ErrRange, func(e *api.Entry) { e.Entity = n })
		add(api.ErrRange, func(e *api.Entry) { e.Period = n })
		add(api.ErrFull, func(e *api.Entry) { e.Ref, e.Entity = long, n })
		add(api.ErrRange, func(e *api.Entry) { e.Period, e.Lines[0].Account = n, long })
	}
	for _, n := range []int{least, -big15 - 1, big15 + 1, most} {
		add(api.ErrRange, func(e *api.Entry) { e.Lines[0].Amount = n })
		add(api.ErrRange, func(e *api.Entry) { e.Lines[len(e.Lines)-1].Amount = n })
		add(api.ErrFull, func(e *api.Entry) { e.Lines[0].Cur, e.Lines[0].Amount = long, n })
		add(api.ErrRange, func(e *api.Entry) { e.Lines[0].Amount, e.Lines[1].Account = n, long })
	}
	add(api.ErrFull, func(e *api.Entry) { e.Ref = long })
	add(api.ErrFull, func(e *api.Entry) { e.Lines[0].Account = long })
	add(api.ErrFull, func(e *api.Entry) { e.Lines[1].Cur = long })
	add(api.ErrFull, func(e *api.Entry) { e.Lines = make([]api.Line, api.MaxLines+1) })
	add(api.ErrFull, func(e *api.Entry) { e.Entity, e.Lines = -1, make([]api.Line, api.MaxLines+1) })
	return l
}

// TestK1SaveWrong: what chapter 5 refuses, where it is new and where it stands in a kept one's place: then nothing is kept beside.
func TestK1SaveWrong(t *testing.T) {
	l := some(5)
	d, empty := laid(t, l...), laid(t)
	for _, w := range wrongs() {
		refuses(t, empty, []api.Entry{w.Entry}, w.want)
		refuses(t, empty, []api.Entry{l[0], w.Entry, l[1]}, w.want)
		for _, at := range []int{0, 2, 4} { // ahead of ErrOrder of the same one
			refuses(t, d, put(l, at, w.Entry), w.want)
		}
		for many := range 3 {
			refuses(t, d, all(l, list(many, 40), []api.Entry{w.Entry}, list(1, 50)), w.want)
		}
	}
	has(t, empty)
	d.Crash(nil, 0)
	has(t, d, l...)
}

// TestK1SaveEdges: what chapter 5 just takes is kept.
func TestK1SaveEdges(t *testing.T) {
	name := strings.Repeat("a", api.MaxName)
	bytes := "\x00\xff\n,\x80 "
	l := []api.Entry{
		{},
		{Ref: name, Entity: api.MaxItems, Period: api.MaxItems},
		{Ref: bytes, Period: 1, Lines: []api.Line{{Account: bytes, Cur: bytes, Amount: big15}}},
		{Entity: 1, Lines: []api.Line{{Account: name, Cur: name, Amount: -big15}, {}, {Amount: -1}}},
		{Ref: "-", Lines: make([]api.Line, api.MaxLines)},
		{Ref: "-", Lines: []api.Line{}},
	}
	d := laid(t)
	save(t, d, l)
	save(t, d, l)
	d.Crash(nil, 0)
	has(t, d, l...)
	goesOn(t, d, l)
}

// TestK1SaveBytes: an entry of each number of bytes up to 200 is kept, one of 201 is not.
func TestK1SaveBytes(t *testing.T) {
	for bytes := 4; bytes <= 200; bytes++ {
		d := laid(t)
		l := []api.Entry{sized(bytes, 1), sized(bytes, 2)}
		if written(l[0]) != bytes || written(l[1]) != bytes {
			t.Fatalf("%d and %d bytes, want %d", written(l[0]), written(l[1]), bytes)
		}
		save(t, d, l)
		d.Crash(nil, 0)
		has(t, d, l...)
	}
	l := some(6)
	d, empty := laid(t, l...), laid(t)
	for _, bytes := range []int{201, 202, 203, 255, 256, 257, 300, 400, 500} {
		e := sized(bytes, 3)
		if written(e) != bytes {
			t.Fatalf("%d bytes, want %d", written(e), bytes)
		}
		refuses(t, empty, []api.Entry{e}, api.ErrFull)
		refuses(t, empty, []api.Entry{l[0], e, l[1]}, api.ErrFull)
		for _, at := range []int{0, 3, 5} { // ahead of ErrOrder of the same one
			refuses(t, d, put(l, at, e), api.ErrFull)
		}
		refuses(t, d, all(l, []api.Entry{e}), api.ErrFull)
	}
	has(t, empty)
	has(t, d, l...)
}

// TestK1SaveWhich: of several faults the first entry's is told, and of one entry the one that is named first.
func TestK1SaveWhich(t *testing.T) {
	l := some(6)
	d := laid(t, l...)
	outside, long, other := api.Entry{Period: -1}, sized(201, 1), sized(10, 1)
	for _, c := range []struct {
		at, then int
		a, b     api.Entry
		want     api.Errno
	}{
		{0, 1, outside, long, api.ErrRange},
		{0, 5, long, outside, api.ErrFull},
		{0, 5, other, outside, api.ErrOrder},
		{1, 2, other, long, api.ErrOrder},
		{1, 2, outside, other, api.ErrRange},
		{1, 2, long, other, api.ErrFull},
		{5, 7, other, outside, api.ErrOrder},
		{5, 7, other, long, api.ErrOrder},
		{6, 7, long, outside, api.ErrFull},
		{6, 7, outside, long, api.ErrRange},
	} {
		refuses(t, d, put(put(all(l, some(2)), c.at, c.a), c.then, c.b), c.want)
	}
	none := disk(t, fewest) // ahead of all: nothing was formatted
	for _, e := range []api.Entry{outside, long, other} {
		refuses(t, none, []api.Entry{e}, api.ErrFile)
	}
	refuses(t, none, list(3000, 4), api.ErrFile)
	isNone(t, none)
	few := append(slices.Clone(l[:2]), outside) // then: fewer
	refuses(t, d, few, api.ErrOrder)
	much := all(l, list(100, 200)) // behind the faults of any entry: no room
	refuses(t, d, much, api.ErrFull)
	refuses(t, d, append(slices.Clone(much), outside), api.ErrRange)
	refuses(t, d, put(much, 3, other), api.ErrOrder)
	refuses(t, d, put(much, len(much)-1, outside), api.ErrRange)
	has(t, d, l...)
}

// needing are entries of so many bytes, the last one of fewer, that need just so much room.
func needing(bytes, need int) (l []api.Entry) {
	for i := 0; need >= 6; i++ { // an entry takes 4 at least
		take := min(bytes+2, need)
		if rest := need - take; rest > 0 && rest < 6 {
			take -= 6 - rest
		}
		l = append(l, sized(take-2, i))
		need -= take
	}
	return l
}

// TestK1SaveFits: entries of 6000 bytes in all with 2 more for each, on the smallest disk, at once, one by one, and behind crashes.
func TestK1SaveFits(t *testing.T) {
	for _, bytes := range []int{4, 11, 57, 58, 59, 100, 118, 199, 200} {
		l := needing(bytes, 6000)
		if room(l) != 6000 {
			t.Fatalf("%d bytes", room(l))
		}
		d := laid(t)
		save(t, d, l)
		d.Crash(nil, 0)
		has(t, d, l...)
		for way := range 3 {
			format(t, d)
			for n := range l {
				told(t, "Save", keep.Save(d, l[:n+1]), api.OK)
				if way == 1 {
					d.Crash(nil, 0)
				}
				if way == 2 {
					d.Fail(d.Steps() + n%7)
					keep.Save(d, l[:min(n+5, len(l))])
					d.Crash([]int{0, 2, 3, 5}, n%5)
					d.Fail(-1)
					if got := loaded(t, d); len(got) > n+1 {
						told(t, "Save", keep.Save(d, got), api.OK)
						break
					}
				}
			}
			told(t, "Save", keep.Save(d, l), api.OK)
			d.Crash(nil, 0)
			has(t, d, l...)
		}
	}
}

// TestK1SaveFitsToo: so do entries that have 6000 bytes of their own, and 2 more for each.
func TestK1SaveFitsToo(t *testing.T) {
	for _, bytes := range []int{5, 10, 20, 60, 100, 200} {
		l := list(6000/bytes, bytes)
		d := laid(t)
		save(t, d, l)
		d.Crash(nil, 0)
		has(t, d, l...)
	}
}

// fill saves as many more as fit, each of so many bytes, and tells all that are kept then.
func fill(t *testing.T, d *block.Disk, l []api.Entry, bytes int) []api.Entry {
	t.Helper()
	for room(l) <= d.Blocks()*api.BlockSize {
		more := append(slices.Clone(l), sized(bytes, len(l)))
		err := keep.Save(d, more)
		if err != nil {
			told(t, "Save", err, api.ErrFull)
			has(t, d, l...)
			return l
		}
		l = more
	}
	t.Fatalf("%d blocks have room for %d bytes", d.Blocks(), room(l))
	return nil
}

// TestK1SaveFull: as many as fit are kept; one more is not, and nothing else then, be they saved one by one or at once.
func TestK1SaveFull(t *testing.T) {
	for _, blocks := range []int{fewest, 151, api.MaxBlocks} {
		for _, bytes := range []int{7, 58, 100, 200} {
			d := disk(t, blocks)
			format(t, d)
			l := fill(t, d, nil, bytes)
			if room(l)+bytes+2 <= 6000 {
				t.Errorf("%d blocks have room for %d bytes", blocks, room(l))
			}
			refuses(t, d, append(slices.Clone(l), sized(bytes, 0)), api.ErrFull)
			refuses(t, d, append(slices.Clone(l), sized(4, 0), sized(bytes, 0)), api.ErrFull)
			refuses(t, d, all(l, list(3000, 4)), api.ErrFull)
			for less := bytes - 1; less >= 4; less-- { // what is shorter may fit still
				l = fill(t, d, l, less)
			}
			refuses(t, d, append(slices.Clone(l), sized(4, 0)), api.ErrFull)
			save(t, d, l)
			d.Crash(nil, 0)
			has(t, d, l...)
			format(t, d)
			refuses(t, d, append(slices.Clone(l), sized(4, 0)), api.ErrFull)
			has(t, d)
			save(t, d, l)
			d.Crash(nil, 0)
			has(t, d, l...)
			save(t, d, l)
			refuses(t, d, l[1:], api.ErrOrder)
			format(t, d)
			goesOn(t, d, nil)
		}
	}
}

// TestK1SaveDisk: the disk's errors, also where nothing is new; behind them it can be saved again, without a Crash.
func TestK1SaveDisk(t *testing.T) {
	was := some(4)
	for more := range 4 {
		l, there := all(was, list(more, 90)), false
		for at := 0; ; at++ {
			d := laid(t, was...)
			d.Fail(at)
			err := keep.Save(d, l)
			if err == nil {
				if at < 1 || more > 0 && at < 2 {
					t.Errorf("a Save of %d more takes %d steps: they can not be safe", more, at)
				}
				break
			}
			told(t, "Save", err, api.ErrState)
			got := loaded(t, d)
			if !begins(l, got) || !begins(got, was) {
				t.Errorf("behind %d steps Load has %s", at, unlike(got, l))
			}
			there = equal(got, l)
			d.Fail(-1)
			save(t, d, l)
			d.Crash(nil, 0)
			has(t, d, l...)
			goesOn(t, d, l)
		}
		if !there {
			t.Errorf("%d more are never there ahead of the last step", more)
		}
	}
}

// TestK1SaveTwo: what is kept on one disk has nothing to do with another one.
func TestK1SaveTwo(t *testing.T) {
	a, b := laid(t), laid(t)
	l, o := some(12), list(12, 70)
	for n := range l {
		save(t, a, l[:n])
		save(t, b, o[:n+1])
		has(t, a, l[:n]...)
	}
	format(t, a)
	has(t, b, o...)
	told(t, fmt.Sprint("Save of ", len(l)), keep.Save(b, l), api.ErrOrder)
}
