package keep_test

import (
	"fmt"
	"slices"
	"testing"

	"quarterday/api"
	"quarterday/block"
	"quarterday/keep"
	"quarterday/log"
	"quarterday/plain"
	"quarterday/store"
)

// TestK1FormatBlocks: a disk of 150 blocks does, one of 149 does not.
func TestK1FormatBlocks(t *testing.T) {
	for _, blocks := range []int{1, 2, 3, 89, 90, 148, 149} {
		d := disk(t, blocks)
		was := image(d)
		for _, fail := range []int{-1, 0} { // ahead of the disk's errors
			d.Fail(fail)
			told(t, fmt.Sprintf("Format of %d blocks", blocks), keep.Format(d), api.ErrFull)
			isNone(t, d)
		}
		if d.Steps() != 0 || !slices.Equal(image(d), was) {
			t.Errorf("Format of %d blocks does something", blocks)
		}
	}
	for _, blocks := range []int{150, 151, 152, 180, 199, api.MaxBlocks} {
		d := disk(t, blocks)
		isNone(t, d)
		format(t, d)
		d.Crash(nil, 0)
		has(t, d)
		goesOn(t, d, nil)
	}
}

// TestK1FormatAgain: nothing is kept behind it, for good, and all of the room is there.
func TestK1FormatAgain(t *testing.T) {
	for _, l := range [][]api.Entry{nil, some(1), some(5), some(30), list(43, 200)} {
		for _, crashed := range []bool{false, true} {
			d := laid(t, l...)
			for n := range 3 {
				format(t, d)
				if crashed {
					d.Crash(nil, 0)
				}
				has(t, d)
				save(t, d, nil)
				save(t, d, list(2+n, 100)) // others than were kept
				format(t, d)
				if crashed {
					d.Crash(nil, 0)
				}
				full := list(1000, 4)
				save(t, d, full)
				d.Crash(nil, 0)
				has(t, d, full...)
			}
		}
	}
}

// TestK1FormatFails: wherever the disk stops nothing was formatted, or nothing is kept; and Format can be done again.
func TestK1FormatFails(t *testing.T) {
	for at := 0; ; at++ {
		d := disk(t, fewest)
		d.Fail(at)
		err := keep.Format(d)
		if err == nil {
			if at < 2 {
				t.Errorf("a Format takes %d steps: it can not be safe", at)
			}
			break
		}
		told(t, "Format", err, api.ErrState)
		if l, err := keep.Load(d); plain.Told(err) != api.ErrFile && (err != nil || len(l) > 0) {
			t.Errorf("behind %d steps Load has %s, %v", at, unlike(l, nil), err)
		}
		d.Fail(-1)
		format(t, d)
		d.Crash(nil, 0)
		goesOn(t, d, nil)
	}
}

// TestK1FormatAgainFails: wherever the disk stops, what was kept is there as a whole, or nothing is.
func TestK1FormatAgainFails(t *testing.T) {
	was := some(9)
	stayed := 0
	for at, done := 0, false; !done; at++ {
		d := laid(t, was...)
		d.Fail(at)
		err := keep.Format(d)
		if done = err == nil; !done {
			told(t, "Format", err, api.ErrState)
		}
		d.Fail(-1)
		l := loaded(t, d)
		if equal(l, was) {
			stayed++
		}
		if len(l) > 0 && (done || !equal(l, was)) {
			t.Errorf("behind %d steps of a Format (%v) Load has %s", at, err, unlike(l, was))
		}
		goesOn(t, d, l)
	}
	if stayed == 0 {
		t.Error("what was kept never stayed")
	}
}

// other is a disk on which something else was written, in one of 6 ways.
func other(t *testing.T, way int) *block.Disk {
	d := disk(t, fewest)
	switch way {
	case 0:
		told(t, "Format", store.Format(d), api.OK)
	case 1, 2:
		told(t, "Format", log.Format(d, way-1, fewest-way+1), api.OK)
		records, _ := log.Open(d, way-1, fewest-way+1)
		for n := range 30 {
			records.Append([]byte(text(100, n)))
		}
		told(t, "Sync", records.Sync(), api.OK)
	case 3:
		for i := range fewest {
			told(t, "Write", d.Write(i, []byte(text(64, i))), api.OK)
		}
	case 4:
		for i := range fewest { // each looks as one of a log does
			told(t, "Write", d.Write(i, []byte{byte(i), 0, 1, 128 + 60, 0, 9, 'n', 'o'}), api.OK)
		}
	case 5:
		for i := range fewest { // each is torn
			told(t, "Write", d.Write(i, []byte{1}), api.OK)
			d.Crash([]int{0}, 0)
		}
	}
	told(t, "Flush", d.Flush(), api.OK)
	return d
}

// TestK1FormatOthers: whatever stood on a disk, nothing was formatted there, and Format makes it one as any other.
func TestK1FormatOthers(t *testing.T) {
	for way := range 6 {
		d := other(t, way)
		isNone(t, d)
		format(t, d)
		d.Crash(nil, 0)
		goesOn(t, d, nil)
	}
}

// TestK1FormatOften: also very often, each with and without entries ahead of it.
func TestK1FormatOften(t *testing.T) {
	d := laid(t)
	for n := range 20_000 {
		told(t, "Format", keep.Format(d), api.OK)
		if n%50 == 0 {
			save(t, d, list(2, 4+n%190))
		}
	}
	has(t, d)
	goesOn(t, d, nil)
}
