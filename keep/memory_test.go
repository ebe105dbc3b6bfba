package keep_test

import (
	"reflect"
	"slices"
	"testing"

	"quarterday/api"
	"quarterday/keep"
)

// spoil writes into entries, and into what is behind them in their memory.
func spoil(l []api.Entry) {
	l = l[:cap(l)]
	for i := range l {
		lines := l[i].Lines[:cap(l[i].Lines)]
		for n := range lines {
			lines[n] = api.Line{Account: "9", Cur: "9", Amount: 9}
		}
		l[i] = api.Entry{Ref: "9", Entity: 9}
	}
}

// handed is what is handed in, with something wrong behind each list.
func handed() (list, memory []api.Entry) {
	memory = append(some(5), api.Entry{Entity: -1}, sized(201, 0))
	for i := range memory {
		lines := memory[i].Lines
		more := append(slices.Clone(lines), make([]api.Line, api.MaxLines)...)
		more[len(lines)].Amount = most
		memory[i].Lines = more[:len(lines)]
	}
	return memory[:5], memory
}

// TestK1HandedIn: entries are not written into nor kept, and what is behind them is not read.
func TestK1HandedIn(t *testing.T) {
	l, memory := handed()
	_, was := handed()
	d := laid(t)
	for range 2 {
		told(t, "Save", keep.Save(d, l), api.OK)
		told(t, "Save", keep.Save(d, l[:2]), api.ErrOrder)
		told(t, "Save", keep.Save(d, memory), api.ErrRange)
		if !reflect.DeepEqual(memory, was) {
			t.Errorf("handed in is written into: %s", unlike(memory, was))
		}
	}
	for i := range memory {
		a, b := memory[i].Lines, was[i].Lines
		if !slices.Equal(a[:cap(a)], b[:cap(b)]) {
			t.Errorf("behind the lines of entry %d something is written", i)
		}
	}
	spoil(memory)
	has(t, d, some(5)...)
	d.Crash(nil, 0)
	has(t, d, some(5)...)
	save(t, d, some(5))
}

// TestK1Own: what one Load gave is not what another did, nor what is kept, and no two lists share any.
func TestK1Own(t *testing.T) {
	want := some(9)
	d := laid(t, want...)
	again := loaded(t, d)
	for i := range want {
		got := loaded(t, d)
		spoil(got[i : i+1 : i+1])
		if !equal(got[:i], want[:i]) || !equal(got[i+1:], want[i+1:]) {
			t.Errorf("others than entry %d are not as they were: %s", i, unlike(got, want))
		}
		spoil(got)
		if !equal(again, want) {
			t.Errorf("another answer is not as it was: %s", unlike(again, want))
		}
		has(t, d, want...)
	}
	save(t, d, want)
	d.Crash(nil, 0)
	has(t, d, want...)
}

// TestK1Grown: what a Load gave may be grown and saved.
func TestK1Grown(t *testing.T) {
	d := laid(t)
	for n := range 20 {
		l := loaded(t, d)
		more := append(l, sized(30+n, n))
		told(t, "Save", keep.Save(d, more), api.OK)
		spoil(more)
		d.Crash(nil, 0)
	}
	var want []api.Entry
	for n := range 20 {
		want = append(want, sized(30+n, n))
	}
	has(t, d, want...)
}
