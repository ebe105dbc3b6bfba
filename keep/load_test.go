package keep_test

import (
	"math/rand/v2"
	"slices"
	"testing"

	"quarterday/api"
	"quarterday/keep"
)

// TestK1LoadNone: nothing was formatted, or nothing is kept.
func TestK1LoadNone(t *testing.T) {
	for _, blocks := range []int{1, 149, fewest, api.MaxBlocks} {
		isNone(t, disk(t, blocks))
	}
	d := laid(t)
	for range 2 {
		if l := loaded(t, d); len(l) != 0 {
			t.Errorf("Load has %s", unlike(l, nil))
		}
		save(t, d, nil)
		d.Crash(nil, 0)
	}
}

// TestK1LoadFields: what is kept, entry by entry, with all that it has.
func TestK1LoadFields(t *testing.T) {
	l := []api.Entry{
		{Ref: "first", Entity: 1, Period: 2, Lines: []api.Line{{Account: "10", Cur: "EUR", Amount: 5}, {Account: "40", Cur: "EUR", Amount: -5}}},
		{Ref: "second", Entity: 3, Period: 4, Lines: []api.Line{{Account: "11", Cur: "USD", Amount: -7}}},
		{Ref: "third", Entity: 5, Period: 6},
	}
	d := laid(t, l...)
	got := loaded(t, d)
	if len(got) != 3 {
		t.Fatalf("Load = %v", got)
	}
	for i, e := range got {
		if e.Ref != l[i].Ref || e.Entity != l[i].Entity || e.Period != l[i].Period || !slices.Equal(e.Lines, l[i].Lines) {
			t.Errorf("entry %d is %v, want %v", i, e, l[i])
		}
	}
}

// anyEntry is one that chapter 5 takes, of any length.
func anyEntry(r *rand.Rand) api.Entry {
	name := func() string {
		b := make([]byte, r.IntN(1+r.IntN(api.MaxName+1)))
		for i := range b {
			b[i] = byte(r.IntN(256))
		}
		return string(b)
	}
	e := api.Entry{Ref: name(), Entity: r.IntN(api.MaxItems + 1), Period: r.IntN(api.MaxItems + 1)}
	for range r.IntN(1 + r.IntN(api.MaxLines+1)) {
		e.Lines = append(e.Lines, api.Line{Account: name(), Cur: name(), Amount: (r.IntN(2*big15+1) - big15) >> r.IntN(50)})
	}
	return e
}

// TestK1LoadAny: entries of any kind, as they came in.
func TestK1LoadAny(t *testing.T) {
	r := rand.New(rand.NewPCG(16, 1))
	long := 0
	for range 300 {
		d := laid(t)
		var l []api.Entry
		for range 40 {
			e := anyEntry(r)
			more := append(slices.Clone(l), e)
			if written(e) > 200 {
				long++
				refuses(t, d, more, api.ErrFull)
				continue
			}
			if room(more) > 6000 {
				break
			}
			l = more
			save(t, d, l)
		}
		d.Crash(nil, 0)
		has(t, d, l...)
		if t.Failed() {
			t.FailNow()
		}
	}
	if long < 100 {
		t.Errorf("only %d were too long", long)
	}
}

// TestK1LoadNothing: Load changes nothing, nor does it ask the disk to do something.
func TestK1LoadNothing(t *testing.T) {
	l := some(8)
	d := laid(t, l...)
	was := image(d)
	d.Fail(0)
	for range 3 {
		has(t, d, l...)
	}
	if d.Steps() != 0 || !slices.Equal(image(d), was) {
		t.Error("Load changes something")
	}
	none := disk(t, fewest)
	was = image(none)
	isNone(t, none)
	if none.Steps() != 0 || !slices.Equal(image(none), was) {
		t.Error("Load changes a disk that was not formatted")
	}
}

// TestK1LoadAnyDisk: no call panics on a disk that someone else wrote into, and a Format is of use there.
func TestK1LoadAnyDisk(t *testing.T) {
	r := rand.New(rand.NewPCG(16, 2))
	wrong := 0
	for range 1500 {
		d := laid(t, some(r.IntN(12))...)
		for range 1 + r.IntN(12) {
			b, _ := d.Read(r.IntN(20))
			if at := r.IntN(80); at < len(b) {
				b[at] = byte(r.IntN(256))
			}
			told(t, "Write", d.Write(r.IntN(20), b), api.OK)
		}
		l, err := keep.Load(d)
		if err != nil {
			wrong++
			told(t, "Load", err, api.ErrFile)
		}
		keep.Save(d, append(l, some(3)...))
		keep.Load(d)
		format(t, d)
		goesOn(t, d, nil)
		if t.Failed() {
			t.FailNow()
		}
	}
	if wrong < 100 {
		t.Errorf("only %d times nothing was kept", wrong)
	}
}
